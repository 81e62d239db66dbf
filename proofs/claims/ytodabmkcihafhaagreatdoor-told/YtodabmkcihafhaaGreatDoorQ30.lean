import Derived.Test.YtodabmkcihafhaaGreatDoorQ22

/- Near: the nearest whole numbers; the parts of both sides. -/
namespace Go.Proofs.YtodabmkcihafhaaGreatDoor
open Go.RowKit
set_option linter.unusedVariables false

/-- The whole number that is nearest to a by d; of two the even one. -/
def nrQ (a d : Int) : Int := if 2 * (a % d) > d ∨ (2 * (a % d) = d ∧ a / d % 2 = 1) then a / d + 1 else a / d
def nrP (f : Fr) (n : Nat) : Int := if f.n < 0 then -(nrQ (-f.n * 2 ^ n) f.d) else nrQ (f.n * 2 ^ n) f.d
/-- Downwards, and what is left. -/
def nrF (a d : Int) : Int := if 2 * (a % d) > d ∨ (2 * (a % d) = d ∧ a / d % 2 ≠ 0) then a / d + 1 else a / d
theorem nr_nonneg {a d : Int} (hd : 0 < d) : nrF a d = nrQ a d := by
  unfold nrF nrQ
  have h2 : a / d % 2 ≠ 0 ↔ a / d % 2 = 1 := by omega
  simp only [h2]
theorem nr_neg {a d : Int} (hd : 0 < d) : nrF (-a) d = -(nrQ a d) := by
  unfold nrF nrQ
  have e1 := Int.mul_ediv_add_emod a d
  have m1 := Int.emod_nonneg a (show d ≠ 0 by omega)
  have m2 := Int.emod_lt_of_pos a hd
  have e2 := Int.mul_ediv_add_emod (-a) d
  have n1 := Int.emod_nonneg (-a) (show d ≠ 0 by omega)
  have n2 := Int.emod_lt_of_pos (-a) hd
  generalize a / d = q at *
  generalize a % d = r at *
  generalize -a / d = p at *
  generalize -a % d = s at *
  by_cases hr : r = 0
  · have : p = -q ∧ s = 0 := by
      have h : d * (p + q) = -s := by
        rw [Int.mul_add]
        omega
      have h3 : p + q = 0 := by
        rcases Int.lt_trichotomy (p + q) 0 with h | h | h
        · have := Int.mul_le_mul_of_nonneg_left (show p + q ≤ -1 by omega) (Int.le_of_lt hd)
          omega
        · exact h
        · have := Int.mul_le_mul_of_nonneg_left (show 1 ≤ p + q by omega) (Int.le_of_lt hd)
          omega
      rw [h3] at h
      simp at h
      omega
    obtain ⟨rfl, rfl⟩ := this
    subst hr
    rw [if_neg (by omega), if_neg (by omega)]
  · have : p = -q - 1 ∧ s = d - r := by
      have h : d * (p + q + 1) = d - r - s := by
        rw [Int.mul_add, Int.mul_add]
        omega
      have h3 : p + q + 1 = 0 := by
        rcases Int.lt_trichotomy (p + q + 1) 0 with h | h | h
        · have := Int.mul_le_mul_of_nonneg_left (show p + q + 1 ≤ -1 by omega) (Int.le_of_lt hd)
          omega
        · exact h
        · have := Int.mul_le_mul_of_nonneg_left (show 1 ≤ p + q + 1 by omega) (Int.le_of_lt hd)
          omega
      rw [h3] at h
      simp at h
      omega
    obtain ⟨rfl, rfl⟩ := this
    clear e1 e2 n1 n2
    split <;> split <;> omega
theorem near_same {f : Fr} (hf : f.Ok) (n : Nat) : nrF (f.n * 2 ^ n) f.d = nrP f n := by
  unfold nrP
  by_cases h : f.n < 0
  · rw [if_pos h]
    have := nr_neg (a := -f.n * 2 ^ n) hf.1
    rw [show -(-f.n * 2 ^ n) = f.n * 2 ^ n by rw [Int.neg_mul]; omega] at this
    exact this
  · rw [if_neg h]
    exact nr_nonneg hf.1

theorem pow_le20 {n : Nat} (h : n ≤ 20) : (1 : Int) ≤ 2 ^ n ∧ (2 : Int) ^ n ≤ 1048576 := by
  have h1 : (2 : Nat) ^ n ≤ 2 ^ 20 := Nat.pow_le_pow_right (by decide) h
  have h2 : 1 ≤ (2 : Nat) ^ n := Nat.one_le_two_pow
  have e : ((2 : Nat) ^ n : Nat) = ((2 : Int) ^ n) := by simp
  have e20 : (2 : Nat) ^ 20 = 1048576 := by decide
  omega
set_option maxHeartbeats 1000000 in
theorem power_any (n : Nat) (w : World) (h : n ≤ 20) : Calls Tryz.prog 110 #[.int .i64 n] w fun e w' => e = .returned (.int .i64 (2 ^ n)) ∧ w' = w := by
  obtain ⟨p1, p2⟩ := pow_le20 h
  go_enter Tryz.func110, Tryz.ntmps110
  go_wp2_with fail
  go_ret
  exact ⟨rfl, rfl⟩

/-! ### The document's nearest -/
set_option maxHeartbeats 2000000 in
set_option maxRecDepth 100000 in
theorem nearest_any (f : Fr) (n : Nat) (w : World) (hf : f.Ok) (hn : n ≤ 20) : Calls Tryz.prog 73 #[.agg #[.int .i64 f.n, .int .i64 f.d], .int .i64 n] w fun e w' => e = .returned (.int .i64 (nrP f n)) ∧ Below w.heap.size w w' := by
  have CA := hidMk (fun W => rabs_any f.n W (by have := hf.2.2.1; omega) (by have := hf.2.2.2.1; omega))
  have CP := hidMk (fun W => power_any n W hn)
  have hx := heap_alloc_new w (.cells #[.int .i64 f.n, .int .i64 f.d] 90)
  have hb := fr_below w (.cells #[.int .i64 f.n, .int .i64 f.d] 90)
  obtain ⟨p1, p2⟩ := pow_le20 hn
  obtain ⟨d1, d2, n1, n2, _⟩ := hf
  go_enter Tryz.func73, Tryz.ntmps73
  go_upto_region 1 with fail
  generalize w.alloc _ = W at *
  obtain ⟨c0, c1, _, _⟩ := two_cells hx
  obtain ⟨A, hA⟩ : ∃ A : Int, (f.n.natAbs : Int) = A := ⟨_, rfl⟩
  obtain ⟨M, hM⟩ : ∃ M : Int, A * 2 ^ n = M := ⟨_, rfl⟩
  have a1 : 0 ≤ A ∧ A ≤ 999999 := by omega
  have m1 : 0 ≤ M ∧ M ≤ 999999 * 1048576 := by
    have h1 := Int.mul_nonneg a1.1 (show (0 : Int) ≤ 2 ^ n by omega)
    have h2 := Int.mul_le_mul a1.2 p2 (show (0 : Int) ≤ 2 ^ n by omega) (by decide)
    omega
  rw [hA] at CA
  have HN : Hid (nrP f n = if f.n < 0 then -(nrQ M f.d) else nrQ M f.d) := by
    show _ = _
    unfold nrP
    by_cases h : f.n < 0
    · rw [if_pos h, if_pos h, ← hM, ← hA, show -f.n = (f.n.natAbs : Int) by omega]
    · rw [if_neg h, if_neg h, ← hM, ← hA, show f.n = (f.n.natAbs : Int) by omega]
      simp
  generalize f.n = fn at *
  generalize f.d = fd at *
  clear hn p1 p2
  go_wp2_with fail
  refine (CA.out W).mono ?_
  rintro e w1 ⟨rfl, rfl⟩
  have wM : wrap64 (A * 2 ^ n) = M := by rw [hM]; unfold wrap64; omega
  generalize (2 : Int) ^ n = P at *
  clear hM hA a1
  go_wp2_with fail
  refine (CP.out _).mono ?_
  rintro e w2 ⟨rfl, rfl⟩
  go_upto_region 4 with fail
  have r1 := Int.emod_nonneg M (show fd ≠ 0 by omega)
  have r2 := Int.emod_lt_of_pos M d1
  have q1 := Int.ediv_nonneg m1.1 (Int.le_of_lt d1)
  have q2 := Int.ediv_le_self fd m1.1
  have hv := HN.out
  unfold nrQ at hv
  have w2r : wrap64 (2 * (M % fd)) = 2 * (M % fd) := by unfold wrap64; omega
  rw [w2r, wM]
  generalize M % fd = rr at *
  generalize M / fd = q at *
  have wq : wrap64 (q + 1) = q + 1 := by unfold wrap64; omega
  have wn : wrap64 (-q) = -q := by unfold wrap64; omega
  have wn1 : wrap64 (-(q + 1)) = -(q + 1) := by unfold wrap64; omega
  have tm : q.tmod 2 = q % 2 := Int.tmod_eq_emod_of_nonneg q1
  have HV := hidMk hv
  clear hv HN w2r wM CA CP hx
  by_cases h1 : 2 * rr > fd
  · by_cases h2 : fn < 0
    · go_wp2_with fail
      go_ret
      exact ⟨by rw [HV.out, if_pos (show fn < 0 by omega), if_pos (show 2 * rr > fd ∨ 2 * rr = fd ∧ q % 2 = 1 by omega)]; rfl, hb⟩
    · go_wp2_with fail
      go_ret
      exact ⟨by rw [HV.out, if_neg (show ¬ fn < 0 by omega), if_pos (show 2 * rr > fd ∨ 2 * rr = fd ∧ q % 2 = 1 by omega)]; rfl, hb⟩
  · by_cases h3 : 2 * rr = fd
    · by_cases h4 : q % 2 = 1
      · by_cases h2 : fn < 0
        · go_wp2_with fail
          go_ret
          exact ⟨by rw [HV.out, if_pos (show fn < 0 by omega), if_pos (show 2 * rr > fd ∨ 2 * rr = fd ∧ q % 2 = 1 by omega)]; rfl, hb⟩
        · go_wp2_with fail
          go_ret
          exact ⟨by rw [HV.out, if_neg (show ¬ fn < 0 by omega), if_pos (show 2 * rr > fd ∨ 2 * rr = fd ∧ q % 2 = 1 by omega)]; rfl, hb⟩
      · by_cases h2 : fn < 0
        · go_wp2_with fail
          go_ret
          exact ⟨by rw [HV.out, if_pos (show fn < 0 by omega), if_neg (show ¬ (2 * rr > fd ∨ 2 * rr = fd ∧ q % 2 = 1) by omega)]; rfl, hb⟩
        · go_wp2_with fail
          go_ret
          exact ⟨by rw [HV.out, if_neg (show ¬ fn < 0 by omega), if_neg (show ¬ (2 * rr > fd ∨ 2 * rr = fd ∧ q % 2 = 1) by omega)]; rfl, hb⟩
    · by_cases h2 : fn < 0
      · go_wp2_with fail
        go_ret
        exact ⟨by rw [HV.out, if_pos (show fn < 0 by omega), if_neg (show ¬ (2 * rr > fd ∨ 2 * rr = fd ∧ q % 2 = 1) by omega)]; rfl, hb⟩
      · go_wp2_with fail
        go_ret
        exact ⟨by rw [HV.out, if_neg (show ¬ fn < 0 by omega), if_neg (show ¬ (2 * rr > fd ∨ 2 * rr = fd ∧ q % 2 = 1) by omega)]; rfl, hb⟩
end Go.Proofs.YtodabmkcihafhaaGreatDoor

/- Near: the document's, and the program's. -/
namespace Go.Proofs.YtodabmkcihafhaaGreatDoor
open Go.RowKit
set_option linter.unusedVariables false

/-- Of what a text comes to, what is told when so many digits are asked for. -/
def tellA (a : Ans) (n : Int) : Ans := match a with | .ok x => if n < 0 ∨ n > 20 then .err 6 0 else .ok x | .err q p => .err q p
def nrRe (a : Ans) (n : Int) : Int := match tellA a n with | .ok x => nrP x.re n.toNat | .err _ _ => 0
def nrIm (a : Ans) (n : Int) : Int := match tellA a n with | .ok x => nrP x.im n.toNat | .err _ _ => 0
theorem valS_num {names : List (Int × Num)} {s : ByteArray} (hn : ∀ q ∈ names, q.2.Ok) {x : Num} (h : valS names s = .ok x) : x.Ok := by
  rcases valS_read names s with ⟨hE, hs, hg, hv⟩ | ⟨hE, p, hp, hv⟩
  · rw [hv] at h
    unfold valT at h
    cases hm : missT (envOf names) (treeT s) with
    | some p => rw [hm] at h; cases h
    | none =>
      rw [hm] at h
      exact (ev_ok (env_ok hn) (treeT s) (top_tree s hg).2.2.1).1 x h
  · rw [hv] at h; cases h

set_option maxHeartbeats 2000000 in
set_option maxRecDepth 100000 in
theorem rnear_any (B : Nat) (names : List (Int × Num)) (s : ByteArray) (n : Int) (w : World) (hl : names.length ≤ 1000) (hok : ∀ p ∈ names, p.2.Ok) (h : NmRow B names w) :
    Calls Tryz.prog 48 #[.pointer (some ⟨B, 0, none⟩), .string s, .int .i64 n] w fun e w' => e = .returned (.tuple #[.int .i64 (nrRe (valS names s) n), .int .i64 (nrIm (valS names s) n), .int .i64 (ansE (tellA (valS names s) n)), .int .i64 (ansP (tellA (valS names s) n))]) ∧ Below w.heap.size w w' := by
  have CN : Hid (Calls Tryz.prog 36 #[.pointer (some ⟨B, 0, none⟩), .string s] w fun e w' => e = .returned (ansV (valS names s)) ∧ Below w.heap.size w w') := by
    have := rnumber_any B names s w hl hok h
    rw [refV_ans] at this
    exact this
  have HX := hidMk (fun x (hv : valS names s = .ok x) => valS_num hok hv)
  have HVS := hidMk (valS_cases names s hok)
  clear hl hok h
  go_enter Tryz.func48, Tryz.ntmps48
  go_wp2_with fail
  refine CN.out.mono ?_
  rintro e w1 ⟨rfl, hb1⟩
  rcases HVS.out with ⟨x, hv⟩ | ⟨q, p, hv, hq⟩
  · have hx := HX.out x hv
    rw [hv]
    have e1 : ansV (.ok x) = .tuple #[.agg (numC x), .int .i64 0, .int .i64 0] := rfl
    rw [e1]
    go_upto_region 2 with fail
    have hx2 := heap_alloc_new w1 (.cells (numC x) 92)
    have hb2 := hb1.trans ((fr_below w1 (.cells (numC x) 92)).mono hb1.size)
    generalize w1.alloc _ = W2 at *
    generalize w1.heap.size = b10 at *
    by_cases hr : n < 0 ∨ n > 20
    · have HV : Hid (nrRe (valS names s) n = 0 ∧ nrIm (valS names s) n = 0 ∧ ansE (tellA (valS names s) n) = 6 ∧ ansP (tellA (valS names s) n) = 0) := by
        have ht : tellA (valS names s) n = .err 6 0 := by
          unfold tellA
          rw [hv]
          exact if_pos hr
        unfold nrRe nrIm
        rw [ht]
        exact ⟨rfl, rfl, rfl, rfl⟩
      clear hv hx e1 CN HX HVS
      go_wp2_with fail
      all_goals exact bodyPost_ret (v := .tuple #[.int .i64 0, .int .i64 0, .int .i64 6, .int .i64 0]) (by simp [results, Tryz.results48, go_sem]) rfl ⟨by rw [HV.out.1, HV.out.2.1, HV.out.2.2.1, HV.out.2.2.2], hb2⟩
    · have hn0 : 0 ≤ n ∧ n ≤ 20 := by omega
      obtain ⟨k, rfl⟩ : ∃ k : Nat, n = k := ⟨n.toNat, by omega⟩
      have HV : Hid (nrRe (valS names s) k = nrP x.re k ∧ nrIm (valS names s) k = nrP x.im k ∧ ansE (tellA (valS names s) k) = 0 ∧ ansP (tellA (valS names s) k) = 0) := by
        have ht : tellA (valS names s) k = .ok x := by
          unfold tellA
          rw [hv]
          exact if_neg hr
        unfold nrRe nrIm
        rw [ht]
        exact ⟨rfl, rfl, rfl, rfl⟩
      have C1 := hidMk (fun W => nearest_any x.re k W hx.1 (by omega))
      have C2 := hidMk (fun W => nearest_any x.im k W hx.2 (by omega))
      generalize nrP x.re k = A at *
      generalize nrP x.im k = D at *
      clear hv hx e1 CN HX HVS hr
      go_upto_region 6 with fail
      have HX2 := hidMk hx2
      have HB2 := hidMk hb2
      clear hx2 hb2
      refine region_inv (nt := 38) _
        (fun j v => match j with
          | 0 => v = .pointer (some ⟨b10, 0, none⟩)
          | 1 => v = .agg #[.int .i64 x.re.n, .int .i64 x.re.d]
          | 2 => v = .int .i64 k
          | 3 => v = .int .i64 A
          | 4 => v = .pointer (some ⟨b10, 2, none⟩)
          | 5 => v = .agg #[.int .i64 x.im.n, .int .i64 x.im.d]
          | 6 => v = .int .i64 k
          | 7 => v = .int .i64 D
          | 8 => v = .int .i64 A
          | 9 => v = .int .i64 D
          | 10 => v = .int .i64 0
          | 11 => v = .int .i64 0
          | _ => True)
        (fun b u w' => Hid (w'.heap[b10]? = some (.cells (numC x) 92 (0, 0)) ∧ Below w.heap.size w w'))
        (act_of rfl rfl) (by kernel_rfl) (by kernel_rfl) (by kernel_rfl) ⟨HX2.out, HB2.out.drew⟩ ?_ ?_
      · intro i o b u w' ho hbi hall hU hW K hK
        have hA : actOf 38 u = ⟨#[u 0, u 1, u 2, u 3, u 4, u 5, u 6, u 7, u 8, u 9, u 10, u 11, u 12, u 13, u 14, u 15, u 16, u 17, u 18, u 19, u 20, u 21, u 22, u 23, u 24, u 25, u 26, u 27, u 28, u 29, u 30, u 31, u 32, u 33, u 34, u 35, u 36, u 37], []⟩ := rfl
        rw [hA] at hK ⊢
        have c2 : u 2 = .int .i64 k := hU.oldB 2 (by kernel_rfl)
        have c10 : u 10 = .pointer (some ⟨b10, 0, none⟩) := hU.oldB 10 (by kernel_rfl)
        have got := hU.got
        have HW := hW
        have HKK := hidMk hK
        clear hU hA hK hW
        obtain ⟨x0, x1, x2, x3⟩ := four_cells HW.out.1
        rcases i with _ | _ | _ | _ | _ | _ | _ | _ | _ | _ | _ | _ | i
        · cases ho
          go_simp
          exact HKK.out _ _ _ (by rw [c2, c10]; rfl) (fun _ => rfl) ⟨HW.out.1, HW.out.2⟩
        · cases ho
          have g30 : u 30 = .pointer (some ⟨b10, 0, none⟩) := got 0 30 rfl (hall ⟨0, .data⟩ (by simp) rfl)
          go_simp
          exact HKK.out _ _ _ (by rw [c2, c10, g30]; rfl) (fun _ => rfl) ⟨HW.out.1, HW.out.2⟩
        · cases ho
          go_simp
          exact HKK.out _ _ _ (by rw [c2, c10]; rfl) (fun _ => rfl) ⟨HW.out.1, HW.out.2⟩
        · cases ho
          have g31 : u 31 = .agg #[.int .i64 x.re.n, .int .i64 x.re.d] := got 1 31 rfl (hall ⟨1, .data⟩ (by simp) rfl)
          have g32 : u 32 = .int .i64 k := got 2 32 rfl (hall ⟨2, .data⟩ (by simp) rfl)
          go_simp
          refine (C1.out _).mono ?_
          rintro e w9 ⟨rfl, hb9⟩
          exact HKK.out _ _ _ (by rw [c2, c10, g31, g32]; rfl) (fun _ => rfl) ⟨(hb9.block _ (Array.getElem?_eq_some_iff.1 HW.out.1).1).trans HW.out.1, HW.out.2.trans (hb9.mono HW.out.2.size)⟩
        · cases ho
          go_simp
          exact HKK.out _ _ _ (by rw [c2, c10]; rfl) (fun _ => rfl) ⟨HW.out.1, HW.out.2⟩
        · cases ho
          have g34 : u 34 = .pointer (some ⟨b10, 2, none⟩) := got 4 34 rfl (hall ⟨4, .data⟩ (by simp) rfl)
          go_simp
          exact HKK.out _ _ _ (by rw [c2, c10, g34]; rfl) (fun _ => rfl) ⟨HW.out.1, HW.out.2⟩
        · cases ho
          go_simp
          exact HKK.out _ _ _ (by rw [c2, c10]; rfl) (fun _ => rfl) ⟨HW.out.1, HW.out.2⟩
        · cases ho
          have g35 : u 35 = .agg #[.int .i64 x.im.n, .int .i64 x.im.d] := got 5 35 rfl (hall ⟨5, .data⟩ (by simp) rfl)
          have g36 : u 36 = .int .i64 k := got 6 36 rfl (hall ⟨6, .data⟩ (by simp) rfl)
          go_simp
          refine (C2.out _).mono ?_
          rintro e w9 ⟨rfl, hb9⟩
          exact HKK.out _ _ _ (by rw [c2, c10, g35, g36]; rfl) (fun _ => rfl) ⟨(hb9.block _ (Array.getElem?_eq_some_iff.1 HW.out.1).1).trans HW.out.1, HW.out.2.trans (hb9.mono HW.out.2.size)⟩
        · cases ho
          have g33 : u 33 = .int .i64 A := got 3 33 rfl (hall ⟨3, .data⟩ (by simp) rfl)
          go_simp
          exact HKK.out _ _ _ (by rw [c2, c10, g33]; rfl) (fun _ => rfl) ⟨HW.out.1, HW.out.2⟩
        · cases ho
          have g37 : u 37 = .int .i64 D := got 7 37 rfl (hall ⟨7, .data⟩ (by simp) rfl)
          go_simp
          exact HKK.out _ _ _ (by rw [c2, c10, g37]; rfl) (fun _ => rfl) ⟨HW.out.1, HW.out.2⟩
        · cases ho
          go_simp
          exact HKK.out _ _ _ (by rw [c2, c10]; rfl) (fun _ => rfl) ⟨HW.out.1, HW.out.2⟩
        · cases ho
          go_simp
          exact HKK.out _ _ _ (by rw [c2, c10]; rfl) (fun _ => rfl) ⟨HW.out.1, HW.out.2⟩
        · simp at ho
      · intro b u w' hall hU hW
        have e6 : u 6 = .int .i64 A := hU.got 8 6 rfl (hall 8 (by decide))
        have e7 : u 7 = .int .i64 D := hU.got 9 7 rfl (hall 9 (by decide))
        have e8 : u 8 = .int .i64 0 := hU.got 10 8 rfl (hall 10 (by decide))
        have e9 : u 9 = .int .i64 0 := hU.got 11 9 rfl (hall 11 (by decide))
        have hA : actOf 38 u = ⟨#[u 0, u 1, u 2, u 3, u 4, u 5, u 6, u 7, u 8, u 9, u 10, u 11, u 12, u 13, u 14, u 15, u 16, u 17, u 18, u 19, u 20, u 21, u 22, u 23, u 24, u 25, u 26, u 27, u 28, u 29, u 30, u 31, u 32, u 33, u 34, u 35, u 36, u 37], []⟩ := rfl
        rw [hA, e6, e7, e8, e9]
        have HW := hidMk hW.out
        clear hU hW hall e6 e7 e8 e9 hA C1 C2
        go_wp2_with fail
        exact bodyPost_ret (v := .tuple #[.int .i64 A, .int .i64 D, .int .i64 0, .int .i64 0]) (by simp [results, Tryz.results48, go_sem]) rfl ⟨by rw [HV.out.1, HV.out.2.1, HV.out.2.2.1, HV.out.2.2.2], HW.out.2⟩
  · have HV : Hid (nrRe (valS names s) n = 0 ∧ nrIm (valS names s) n = 0 ∧ ansE (tellA (valS names s) n) = q ∧ ansP (tellA (valS names s) n) = p) := by
      unfold nrRe nrIm
      rw [hv]
      exact ⟨rfl, rfl, rfl, rfl⟩
    rw [hv]
    have e1 : ansV (.err q p) = .tuple #[.agg (numC ⟨⟨0, 0⟩, ⟨0, 0⟩⟩), .int .i64 q, .int .i64 p] := rfl
    rw [e1]
    have hne : (q != 0) = true := by simpa using hq
    clear hv hq e1 CN HX HVS
    go_upto_region 2 with fail
    have hb2 := hb1.trans ((fr_below w1 (.cells (numC ⟨⟨0, 0⟩, ⟨0, 0⟩⟩) 92)).mono hb1.size)
    generalize w1.alloc _ = W2 at *
    go_wp2_with fail
    exact bodyPost_ret (v := .tuple #[.int .i64 0, .int .i64 0, .int .i64 q, .int .i64 p]) (by simp [results, Tryz.results48, go_sem]) rfl ⟨by rw [HV.out.1, HV.out.2.1, HV.out.2.2.1, HV.out.2.2.2], hb2⟩
end Go.Proofs.YtodabmkcihafhaaGreatDoor

/- Near: the program's number package. -/
namespace Go.Proofs.YtodabmkcihafhaaGreatDoor
open Go.RowKit
set_option linter.unusedVariables false

theorem tdiv_cases {a d : Int} (hd : 0 < d) : (a.tmod d < 0 → a / d = a.tdiv d - 1 ∧ a % d = a.tmod d + d) ∧ (0 ≤ a.tmod d → a / d = a.tdiv d ∧ a % d = a.tmod d) := by
  have h1 := Int.mul_tdiv_add_tmod a d
  have h2 := Int.tmod_lt_of_pos a hd
  have h3 : -d < a.tmod d := by
    have := Int.tmod_lt_of_pos (-a) hd
    rw [Int.neg_tmod] at this
    omega
  generalize a.tdiv d = t at *
  generalize a.tmod d = r at *
  constructor
  · intro hr
    refine (Int.ediv_emod_unique hd).2 ⟨?_, by omega, by omega⟩
    rw [Int.mul_sub]
    omega
  · intro hr
    exact (Int.ediv_emod_unique hd).2 ⟨by omega, by omega, by omega⟩
theorem tdiv_abs (a d : Int) : (a.tdiv d).natAbs ≤ a.natAbs := by
  rw [Int.natAbs_tdiv]
  exact Nat.div_le_self _ _
set_option maxHeartbeats 1000000 in
theorem floor_any (a d : Int) (w : World) (hd : 0 < d) (hd2 : d ≤ 999999) (ha : -1048574951424 ≤ a ∧ a ≤ 1048574951424) : Calls Tryz.prog 139 #[.int .i64 a, .int .i64 d] w fun e w' => e = .returned (.tuple #[.int .i64 (a / d), .int .i64 (a % d)]) ∧ Below w.heap.size w w' := by
  have d0 : d ≠ 0 := by omega
  have dm : d ≠ -1 := by omega
  go_enter Tryz.func139, Tryz.ntmps139
  go_upto_region 1 with fail
  go_region
  obtain ⟨c1, c2⟩ := tdiv_cases (a := a) hd
  have hb := tdiv_abs a d
  have hm2 := Int.tmod_lt_of_pos a hd
  have hm3 : -d < a.tmod d := by
    have := Int.tmod_lt_of_pos (-a) hd
    rw [Int.neg_tmod] at this
    omega
  generalize a.tdiv d = t at *
  generalize a.tmod d = r at *
  have w1 : wrap64 (t - 1) = t - 1 := by unfold wrap64; omega
  have w2 : wrap64 (r + d) = r + d := by unfold wrap64; omega
  have hbl : Below w.heap.size w w.drew := (Below.refl _ w).drew
  by_cases hr : r < 0
  · obtain ⟨e1, e2⟩ := c1 hr
    have E1 := hidMk e1
    have E2 := hidMk e2
    clear e1 e2 c1 c2
    go_wp2_with fail
    go_ret2
    exact ⟨by rw [E1.out, E2.out]; rfl, hbl⟩
  · obtain ⟨e1, e2⟩ := c2 (by omega)
    have E1 := hidMk e1
    have E2 := hidMk e2
    clear e1 e2 c1 c2
    go_wp2_with fail
    go_ret2
    exact ⟨by rw [E1.out, E2.out]; rfl, hbl⟩
set_option maxHeartbeats 2000000 in
set_option maxRecDepth 100000 in
theorem fnear_any (f : Fr) (n : Nat) (w : World) (hf : f.Ok) (hn : n ≤ 20) : Calls Tryz.prog 109 #[.agg #[.int .i64 f.n, .int .i64 f.d], .int .i64 n] w fun e w' => e = .returned (.int .i64 (nrP f n)) ∧ Below w.heap.size w w' := by
  obtain ⟨p1, p2⟩ := pow_le20 hn
  obtain ⟨M, hM⟩ : ∃ M : Int, f.n * 2 ^ n = M := ⟨_, rfl⟩
  have hsame := near_same hf n
  obtain ⟨d1, d2, n1, n2, _⟩ := hf
  have m1 : -1048574951424 ≤ M ∧ M ≤ 1048574951424 := by
    rw [← hM]
    have h1 : (f.n * 2 ^ n).natAbs = f.n.natAbs * (2 ^ n : Int).natAbs := Int.natAbs_mul _ _
    have h2 := Nat.mul_le_mul (show f.n.natAbs ≤ 999999 by omega) (show (2 ^ n : Int).natAbs ≤ 1048576 by omega)
    omega
  have CF := hidMk (fun W => floor_any M f.d W d1 d2 m1)
  have hx := heap_alloc_new w (.cells #[.int .i64 f.n, .int .i64 f.d] 80)
  have hb := fr_below w (.cells #[.int .i64 f.n, .int .i64 f.d] 80)
  have wM : wrap64 (f.n * 2 ^ n) = M := by rw [hM]; unfold wrap64; omega
  rw [hM] at hsame
  unfold nrF at hsame
  have HS := hidMk hsame
  clear hsame
  go_enter Tryz.func109, Tryz.ntmps109
  go_upto_region 1 with fail
  generalize w.alloc _ = W at *
  have HX2 := hidMk hx
  have HB2 := hidMk hb
  clear hx hb hM p1 p2
  generalize f.n = fn at *
  generalize f.d = fd at *
  refine region_inv (nt := 37) _
    (fun j v => match j with
      | 0 => v = .pointer (some ⟨w.heap.size, 0, none⟩)
      | 1 => v = .int .i64 fn
      | 2 => v = .int .i64 n
      | 3 => v = .int .i64 M
      | 4 => v = .pointer (some ⟨w.heap.size, 1, none⟩)
      | 5 => v = .int .i64 fd
      | 6 => v = .tuple #[.int .i64 (M / fd), .int .i64 (M % fd)]
      | 7 => v = .tuple #[.int .i64 (M / fd), .int .i64 (M % fd)]
      | 8 => v = .int .i64 (M / fd)
      | 9 => v = .int .i64 (M % fd)
      | 10 => v = .int .i64 (M / fd)
      | 11 => v = .int .i64 (M % fd)
      | _ => True)
    (fun b u w' => Hid (w'.heap[w.heap.size]? = some (.cells #[.int .i64 fn, .int .i64 fd] 80 (0, 0)) ∧ Below w.heap.size w w'))
    (act_of rfl rfl) (by kernel_rfl) (by kernel_rfl) (by kernel_rfl) ⟨HX2.out, HB2.out.drew⟩ ?_ ?_
  · intro i o b u w' ho hbi hall hU hW K hK
    have hA : actOf 37 u = ⟨#[u 0, u 1, u 2, u 3, u 4, u 5, u 6, u 7, u 8, u 9, u 10, u 11, u 12, u 13, u 14, u 15, u 16, u 17, u 18, u 19, u 20, u 21, u 22, u 23, u 24, u 25, u 26, u 27, u 28, u 29, u 30, u 31, u 32, u 33, u 34, u 35, u 36], []⟩ := rfl
    rw [hA] at hK ⊢
    have c1 : u 1 = .int .i64 n := hU.oldB 1 (by kernel_rfl)
    have c2 : u 2 = .pointer (some ⟨w.heap.size, 0, none⟩) := hU.oldB 2 (by kernel_rfl)
    have got := hU.got
    have HW := hW
    have HKK := hidMk hK
    clear hU hA hK hW
    obtain ⟨x0, x1, _, _⟩ := two_cells HW.out.1
    rcases i with _ | _ | _ | _ | _ | _ | _ | _ | _ | _ | _ | _ | i
    · cases ho
      go_simp
      exact HKK.out _ _ _ (by rw [c1, c2]; rfl) (fun _ => rfl) ⟨HW.out.1, HW.out.2⟩
    · cases ho
      have g8 : u 8 = .pointer (some ⟨w.heap.size, 0, none⟩) := got 0 8 rfl (hall ⟨0, .data⟩ (by simp) rfl)
      go_simp
      exact HKK.out _ _ _ (by rw [c1, c2, g8]; rfl) (fun _ => rfl) ⟨HW.out.1, HW.out.2⟩
    · cases ho
      go_simp
      exact HKK.out _ _ _ (by rw [c1, c2]; rfl) (fun _ => rfl) ⟨HW.out.1, HW.out.2⟩
    · cases ho
      have g9 : u 9 = .int .i64 fn := got 1 9 rfl (hall ⟨1, .data⟩ (by simp) rfl)
      have g10 : u 10 = .int .i64 n := got 2 10 rfl (hall ⟨2, .data⟩ (by simp) rfl)
      go_simp
      exact HKK.out _ _ _ (by rw [c1, c2, g9, g10]; rfl) (fun _ => show Value.int .i64 (IntKind.i64.wrap (fn * 2 ^ n)) = .int .i64 M from by rw [show IntKind.i64.wrap (fn * 2 ^ n) = wrap64 (fn * 2 ^ n) from by unfold wrap64; exact IntKind.wrap_i64 (fn * 2 ^ n), wM]) ⟨HW.out.1, HW.out.2⟩
    · cases ho
      go_simp
      exact HKK.out _ _ _ (by rw [c1, c2]; rfl) (fun _ => rfl) ⟨HW.out.1, HW.out.2⟩
    · cases ho
      have g12 : u 12 = .pointer (some ⟨w.heap.size, 1, none⟩) := got 4 12 rfl (hall ⟨4, .data⟩ (by simp) rfl)
      go_simp
      exact HKK.out _ _ _ (by rw [c1, c2, g12]; rfl) (fun _ => rfl) ⟨HW.out.1, HW.out.2⟩
    · cases ho
      have g11 : u 11 = .int .i64 M := got 3 11 rfl (hall ⟨3, .data⟩ (by simp) rfl)
      have g13 : u 13 = .int .i64 fd := got 5 13 rfl (hall ⟨5, .data⟩ (by simp) rfl)
      go_simp
      refine (CF.out _).mono ?_
      rintro e w9 ⟨rfl, hb9⟩
      exact HKK.out _ _ _ (by rw [c1, c2, g11, g13]; rfl) (fun _ => rfl) ⟨(hb9.block _ (Array.getElem?_eq_some_iff.1 HW.out.1).1).trans HW.out.1, HW.out.2.trans (hb9.mono HW.out.2.size)⟩
    · cases ho
      have g14 : u 14 = .tuple #[.int .i64 (M / fd), .int .i64 (M % fd)] := got 6 14 rfl (hall ⟨6, .data⟩ (by simp) rfl)
      go_simp
      exact HKK.out _ _ _ (by rw [c1, c2, g14]; rfl) (fun _ => rfl) ⟨HW.out.1, HW.out.2⟩
    · cases ho
      have g7 : u 7 = .tuple #[.int .i64 (M / fd), .int .i64 (M % fd)] := got 7 7 rfl (hall ⟨7, .data⟩ (by simp) rfl)
      go_simp
      exact HKK.out _ _ _ (by rw [c1, c2, g7]; rfl) (fun _ => rfl) ⟨HW.out.1, HW.out.2⟩
    · cases ho
      have g7 : u 7 = .tuple #[.int .i64 (M / fd), .int .i64 (M % fd)] := got 7 7 rfl (hall ⟨7, .data⟩ (by simp) rfl)
      go_simp
      exact HKK.out _ _ _ (by rw [c1, c2, g7]; rfl) (fun _ => rfl) ⟨HW.out.1, HW.out.2⟩
    · cases ho
      have g15 : u 15 = .int .i64 (M / fd) := got 8 15 rfl (hall ⟨8, .data⟩ (by simp) rfl)
      go_simp
      exact HKK.out _ _ _ (by rw [c1, c2, g15]; rfl) (fun _ => rfl) ⟨HW.out.1, HW.out.2⟩
    · cases ho
      have g16 : u 16 = .int .i64 (M % fd) := got 9 16 rfl (hall ⟨9, .data⟩ (by simp) rfl)
      go_simp
      exact HKK.out _ _ _ (by rw [c1, c2, g16]; rfl) (fun _ => rfl) ⟨HW.out.1, HW.out.2⟩
    · simp at ho
  · intro b u w' hall hU hW
    have e5' : u 5 = .int .i64 (M / fd) := hU.got 10 5 rfl (hall 10 (by decide))
    have e6' : u 6 = .int .i64 (M % fd) := hU.got 11 6 rfl (hall 11 (by decide))
    have hA : actOf 37 u = ⟨#[u 0, u 1, u 2, u 3, u 4, u 5, u 6, u 7, u 8, u 9, u 10, u 11, u 12, u 13, u 14, u 15, u 16, u 17, u 18, u 19, u 20, u 21, u 22, u 23, u 24, u 25, u 26, u 27, u 28, u 29, u 30, u 31, u 32, u 33, u 34, u 35, u 36], []⟩ := rfl
    have e0 : u 0 = .agg #[.int .i64 fn, .int .i64 fd] := hU.oldB 0 (by kernel_rfl)
    have e1 : u 1 = .int .i64 n := hU.oldB 1 (by kernel_rfl)
    have e2 : u 2 = .pointer (some ⟨w.heap.size, 0, none⟩) := hU.oldB 2 (by kernel_rfl)
    have e3 : u 3 = undef := hU.oldB 3 (by kernel_rfl)
    have e4 : u 4 = .int .i64 0 := hU.oldB 4 (by kernel_rfl)
    have e17 : u 17 = undef := hU.oldB 17 (by kernel_rfl)
    have e18 : u 18 = undef := hU.oldB 18 (by kernel_rfl)
    have e19 : u 19 = undef := hU.oldB 19 (by kernel_rfl)
    have e20 : u 20 = undef := hU.oldB 20 (by kernel_rfl)
    have e21 : u 21 = undef := hU.oldB 21 (by kernel_rfl)
    have e22 : u 22 = undef := hU.oldB 22 (by kernel_rfl)
    have e23 : u 23 = undef := hU.oldB 23 (by kernel_rfl)
    have e24 : u 24 = undef := hU.oldB 24 (by kernel_rfl)
    have e25 : u 25 = undef := hU.oldB 25 (by kernel_rfl)
    have e26 : u 26 = undef := hU.oldB 26 (by kernel_rfl)
    have e27 : u 27 = undef := hU.oldB 27 (by kernel_rfl)
    have e28 : u 28 = undef := hU.oldB 28 (by kernel_rfl)
    have e29 : u 29 = undef := hU.oldB 29 (by kernel_rfl)
    have e30 : u 30 = undef := hU.oldB 30 (by kernel_rfl)
    have e31 : u 31 = undef := hU.oldB 31 (by kernel_rfl)
    have e32 : u 32 = undef := hU.oldB 32 (by kernel_rfl)
    have e33 : u 33 = undef := hU.oldB 33 (by kernel_rfl)
    have e34 : u 34 = undef := hU.oldB 34 (by kernel_rfl)
    have e35 : u 35 = undef := hU.oldB 35 (by kernel_rfl)
    have e36 : u 36 = undef := hU.oldB 36 (by kernel_rfl)
    rw [hA, e0, e1, e2, e3, e4, e17, e18, e19, e20, e21, e22, e23, e24, e25, e26, e27, e28, e29, e30, e31, e32, e33, e34, e35, e36]
    clear hA e0 e1 e2 e3 e4 e17 e18 e19 e20 e21 e22 e23 e24 e25 e26 e27 e28 e29 e30 e31 e32 e33 e34 e35 e36
    rw [e5', e6']
    have HW := hidMk hW.out
    clear hU hW hall e5' e6' CF HX2 HB2 wM
    obtain ⟨c0, c1, _, _⟩ := two_cells HW.out.1
    have r1 := Int.emod_nonneg M (show fd ≠ 0 by omega)
    have r2 := Int.emod_lt_of_pos M d1
    have hq : (M / fd).natAbs ≤ M.natAbs + 1 := by
      obtain ⟨k1, k2⟩ := tdiv_cases (a := M) d1
      have k3 := tdiv_abs M fd
      rcases Int.lt_or_le (M.tmod fd) 0 with h | h
      · have := (k1 h).1
        omega
      · have := (k2 h).1
        omega
    have w2r : wrap64 (2 * (M % fd)) = 2 * (M % fd) := by unfold wrap64; omega
    have hs := HS.out
    generalize M % fd = rr at *
    generalize M / fd = q at *
    have wq : wrap64 (q + 1) = q + 1 := by unfold wrap64; omega
    have hodd : q.tmod 2 = 0 ↔ q % 2 = 0 := by
      obtain ⟨k1, k2⟩ := tdiv_cases (a := q) (d := 2) (by decide)
      have k3 := Int.tmod_lt_of_pos q (show (0 : Int) < 2 by decide)
      have k4 := Int.tmod_lt_of_pos (-q) (show (0 : Int) < 2 by decide)
      rw [Int.neg_tmod] at k4
      rcases Int.lt_or_le (q.tmod 2) 0 with h | h
      · have := (k1 h).2
        omega
      · have := (k2 h).2
        omega
    have HS2 := hidMk hs
    clear hs HS
    by_cases h1 : 2 * rr > fd
    · go_wp2_with fail
      go_ret
      exact ⟨by rw [← HS2.out, if_pos (show 2 * rr > fd ∨ 2 * rr = fd ∧ q % 2 ≠ 0 by omega)]; rfl, HW.out.2⟩
    · by_cases h3 : 2 * rr = fd
      · by_cases h4 : q.tmod 2 = 0
        · have h5 := hodd.1 h4
          go_wp2_with fail
          go_ret
          exact ⟨by rw [← HS2.out, if_neg (show ¬ (2 * rr > fd ∨ 2 * rr = fd ∧ q % 2 ≠ 0) by omega)]; rfl, HW.out.2⟩
        · have h5 : q % 2 ≠ 0 := fun h => h4 (hodd.2 h)
          go_wp2_with fail
          go_ret
          exact ⟨by rw [← HS2.out, if_pos (show 2 * rr > fd ∨ 2 * rr = fd ∧ q % 2 ≠ 0 by omega)]; rfl, HW.out.2⟩
      · go_wp2_with fail
        go_ret
        exact ⟨by rw [← HS2.out, if_neg (show ¬ (2 * rr > fd ∨ 2 * rr = fd ∧ q % 2 ≠ 0) by omega)]; rfl, HW.out.2⟩
end Go.Proofs.YtodabmkcihafhaaGreatDoor

/- Near: the program's Near, told. -/
namespace Go.Proofs.YtodabmkcihafhaaGreatDoor
open Go.RowKit
set_option linter.unusedVariables false

set_option maxHeartbeats 2000000 in
set_option maxRecDepth 100000 in
theorem nnear_any (x : Num) (k : Nat) (w : World) (hx : x.Ok) (hk : k ≤ 20) : Calls Tryz.prog 72 #[.agg (numC x), .int .i64 k] w fun e w' => e = .returned (.tuple #[.int .i64 (nrP x.re k), .int .i64 (nrP x.im k)]) ∧ Below w.heap.size w w' := by
  have C1 := hidMk (fun W => fnear_any x.re k W hx.1 hk)
  have C2 := hidMk (fun W => fnear_any x.im k W hx.2 hk)
  have hx2 := heap_alloc_new w (.cells (numC x) 82)
  have hb2 := fr_below w (.cells (numC x) 82)
  have HV : Hid (∃ A D, nrP x.re k = A ∧ nrP x.im k = D) := ⟨_, _, rfl, rfl⟩
  obtain ⟨A, D, hA, hD⟩ := HV.out
  rw [hA] at C1
  rw [hD] at C2
  have HAD := hidMk (And.intro hA hD)
  clear HV hA hD hx
  go_enter Tryz.func72, Tryz.ntmps72
  go_upto_region 1 with fail
  generalize w.alloc _ = W2 at *
  have HX2 := hidMk hx2
  have HB2 := hidMk hb2
  clear hx2 hb2
  refine region_inv (nt := 14) _
    (fun j v => match j with
      | 0 => v = .pointer (some ⟨w.heap.size, 0, none⟩)
      | 1 => v = .agg #[.int .i64 x.re.n, .int .i64 x.re.d]
      | 2 => v = .int .i64 k
      | 3 => v = .int .i64 A
      | 4 => v = .pointer (some ⟨w.heap.size, 2, none⟩)
      | 5 => v = .agg #[.int .i64 x.im.n, .int .i64 x.im.d]
      | 6 => v = .int .i64 k
      | 7 => v = .int .i64 D
      | 8 => v = .int .i64 A
      | 9 => v = .int .i64 D
      | _ => True)
    (fun b u w' => Hid (w'.heap[w.heap.size]? = some (.cells (numC x) 82 (0, 0)) ∧ Below w.heap.size w w'))
    (act_of rfl rfl) (by kernel_rfl) (by kernel_rfl) (by kernel_rfl) ⟨HX2.out, HB2.out.drew⟩ ?_ ?_
  · intro i o b u w' ho hbi hall hU hW K hK
    have hA : actOf 14 u = ⟨#[u 0, u 1, u 2, u 3, u 4, u 5, u 6, u 7, u 8, u 9, u 10, u 11, u 12, u 13], []⟩ := rfl
    rw [hA] at hK ⊢
    have c1 : u 1 = .int .i64 k := hU.oldB 1 (by kernel_rfl)
    have c2 : u 2 = .pointer (some ⟨w.heap.size, 0, none⟩) := hU.oldB 2 (by kernel_rfl)
    have got := hU.got
    have HW := hW
    have HKK := hidMk hK
    clear hU hA hK hW
    obtain ⟨x0, x1, x2, x3⟩ := four_cells HW.out.1
    rcases i with _ | _ | _ | _ | _ | _ | _ | _ | _ | _ | i
    · cases ho
      go_simp
      exact HKK.out _ _ _ (by rw [c1, c2]; rfl) (fun _ => rfl) ⟨HW.out.1, HW.out.2⟩
    · cases ho
      have g6 : u 6 = .pointer (some ⟨w.heap.size, 0, none⟩) := got 0 6 rfl (hall ⟨0, .data⟩ (by simp) rfl)
      go_simp
      exact HKK.out _ _ _ (by rw [c1, c2, g6]; rfl) (fun _ => rfl) ⟨HW.out.1, HW.out.2⟩
    · cases ho
      go_simp
      exact HKK.out _ _ _ (by rw [c1, c2]; rfl) (fun _ => rfl) ⟨HW.out.1, HW.out.2⟩
    · cases ho
      have g7 : u 7 = .agg #[.int .i64 x.re.n, .int .i64 x.re.d] := got 1 7 rfl (hall ⟨1, .data⟩ (by simp) rfl)
      have g8 : u 8 = .int .i64 k := got 2 8 rfl (hall ⟨2, .data⟩ (by simp) rfl)
      go_simp
      refine (C1.out _).mono ?_
      rintro e w9 ⟨rfl, hb9⟩
      exact HKK.out _ _ _ (by rw [c1, c2, g7, g8]; rfl) (fun _ => rfl) ⟨(hb9.block _ (Array.getElem?_eq_some_iff.1 HW.out.1).1).trans HW.out.1, HW.out.2.trans (hb9.mono HW.out.2.size)⟩
    · cases ho
      go_simp
      exact HKK.out _ _ _ (by rw [c1, c2]; rfl) (fun _ => rfl) ⟨HW.out.1, HW.out.2⟩
    · cases ho
      have g10 : u 10 = .pointer (some ⟨w.heap.size, 2, none⟩) := got 4 10 rfl (hall ⟨4, .data⟩ (by simp) rfl)
      go_simp
      exact HKK.out _ _ _ (by rw [c1, c2, g10]; rfl) (fun _ => rfl) ⟨HW.out.1, HW.out.2⟩
    · cases ho
      go_simp
      exact HKK.out _ _ _ (by rw [c1, c2]; rfl) (fun _ => rfl) ⟨HW.out.1, HW.out.2⟩
    · cases ho
      have g11 : u 11 = .agg #[.int .i64 x.im.n, .int .i64 x.im.d] := got 5 11 rfl (hall ⟨5, .data⟩ (by simp) rfl)
      have g12 : u 12 = .int .i64 k := got 6 12 rfl (hall ⟨6, .data⟩ (by simp) rfl)
      go_simp
      refine (C2.out _).mono ?_
      rintro e w9 ⟨rfl, hb9⟩
      exact HKK.out _ _ _ (by rw [c1, c2, g11, g12]; rfl) (fun _ => rfl) ⟨(hb9.block _ (Array.getElem?_eq_some_iff.1 HW.out.1).1).trans HW.out.1, HW.out.2.trans (hb9.mono HW.out.2.size)⟩
    · cases ho
      have g9 : u 9 = .int .i64 A := got 3 9 rfl (hall ⟨3, .data⟩ (by simp) rfl)
      go_simp
      exact HKK.out _ _ _ (by rw [c1, c2, g9]; rfl) (fun _ => rfl) ⟨HW.out.1, HW.out.2⟩
    · cases ho
      have g13 : u 13 = .int .i64 D := got 7 13 rfl (hall ⟨7, .data⟩ (by simp) rfl)
      go_simp
      exact HKK.out _ _ _ (by rw [c1, c2, g13]; rfl) (fun _ => rfl) ⟨HW.out.1, HW.out.2⟩
    · simp at ho
  · intro b u w' hall hU hW
    have e4 : u 4 = .int .i64 A := hU.got 8 4 rfl (hall 8 (by decide))
    have e5 : u 5 = .int .i64 D := hU.got 9 5 rfl (hall 9 (by decide))
    have hA : actOf 14 u = ⟨#[u 0, u 1, u 2, u 3, u 4, u 5, u 6, u 7, u 8, u 9, u 10, u 11, u 12, u 13], []⟩ := rfl
    rw [hA, e4, e5]
    have HW := hidMk hW.out
    clear hU hW hall e4 e5 hA C1 C2
    go_wp2_with fail
    exact bodyPost_ret (v := .tuple #[.int .i64 A, .int .i64 D]) (by simp [results, Tryz.results72, go_sem]) rfl ⟨by rw [HAD.out.1, HAD.out.2], HW.out.2⟩

/-! ### What is told -/
set_option maxHeartbeats 4000000 in
set_option maxRecDepth 100000 in
theorem told_any (N : Nat) (aZ aB : Addr) (K P m T r : Nat) (names : List (Int × Num)) (s : ByteArray) (n : Int) (w : World) (h : Bk N aZ aB K P m T r names w) :
    Calls Tryz.prog 44 #[.pointer (some ⟨K, 0, none⟩), .string s, .int .i64 n] w fun e w' => e = .returned (ansV (tellA (valS names s) n)) ∧ Tb T r names w' ∧ Kp (· = r) w w' := by
  have hrl : r < w.heap.size := by obtain ⟨es, c, h1, _⟩ := h.pw.tb.hr; exact (Array.getElem?_eq_some_iff.1 h1).1
  have h0 : NW N aZ aB P m T r names w #[.int .i64 0, .int .i64 0, .int .i64 0, .int .i64 0] (w.alloc (.cells #[.int .i64 0, .int .i64 0, .int .i64 0, .int .i64 0] 82)) :=
    ⟨h.pw.below (fr_below w _), heap_alloc_new w _, hrl, (Kp.refl _ w).alloc _⟩
  have hk0 := (h.below (fr_below w (.cells #[.int .i64 0, .int .i64 0, .int .i64 0, .int .i64 0] 82))).hK
  have CC := hidMk (fun W hW => current_any K P W hW)
  have CN := hidMk (fun W hW => pnumber_any N aZ aB P m T r names s W hW)
  have HVS := hidMk (valS_cases names s h.pw.nm)
  clear h hrl
  go_enter Tryz.func44, Tryz.ntmps44
  go_upto_region 1 with fail
  generalize w.alloc _ = W at *
  have H0 := hidMk h0
  have HK0 := hidMk hk0
  clear h0 hk0
  go_wp2_with fail
  refine (CC.out _ HK0.out).mono ?_
  rintro e w1 ⟨rfl, hb1⟩
  have h1 := H0.out.below hb1
  clear H0 HK0 hb1
  have H1 := hidMk h1
  go_wp2_with fail
  refine (CN.out _ h1.pw).mono ?_
  rintro e w2 ⟨rfl, ht2, hk2⟩
  have h2 := H1.out.kept hk2 ht2
  clear H1 h1 hk2 ht2 CC CN
  rcases HVS.out with ⟨x, hv⟩ | ⟨q, p, hv, hq⟩
  · rw [hv]
    have e1 : ansV (.ok x) = .tuple #[.agg (numC x), .int .i64 0, .int .i64 0] := rfl
    rw [e1]
    go_upto_region 2 with fail
    have h3 := h2.below (fr_below w2 (.cells (numC x) 82))
    have hx3 := heap_alloc_new w2 (.cells (numC x) 82)
    generalize w2.alloc _ = W3 at *
    generalize w2.heap.size = bx at *
    obtain ⟨x0, x1, x2, x3⟩ := four_cells hx3
    obtain ⟨z0, z1, z2, z3⟩ := four_cells h3.hz
    obtain ⟨f0, f1, f2, f3⟩ := four_frozen h3.hz
    have H3 := hidMk h3
    clear h2 h3 hx3 e1
    by_cases hr : n < 0 ∨ n > 20
    · have HV : Hid (ansV (tellA (valS names s) n) = .tuple #[.agg (numC ⟨⟨0, 0⟩, ⟨0, 0⟩⟩), .int .i64 6, .int .i64 0]) := by
        have ht : tellA (valS names s) n = .err 6 0 := by
          unfold tellA
          rw [hv]
          exact if_pos hr
        show _ = _
        rw [ht]
        rfl
      clear hv HVS
      go_wp2_with fail
      all_goals
        refine bp_gen (fun W' => W'.heap[w.heap.size]? = some (.cells (numC ⟨⟨0, 0⟩, ⟨0, 0⟩⟩) 82 (0, 0)) ∧ Tb T r names W' ∧ Kp (· = r) w W') (H3.out.setz ⟨⟨0, 0⟩, ⟨0, 0⟩⟩) ?_
        rintro W ⟨hz, ht, hk⟩
        obtain ⟨z0, z1, z2, z3⟩ := four_cells hz
        rw [HV.out]
        exact bodyPost_ret (v := .tuple #[.agg (numC ⟨⟨0, 0⟩, ⟨0, 0⟩⟩), .int .i64 6, .int .i64 0]) (by simp [results, Tryz.results44, go_sem, z0, z1, z2, z3]) rfl ⟨rfl, ht, hk⟩
    · have HV : Hid (ansV (tellA (valS names s) n) = .tuple #[.agg (numC x), .int .i64 0, .int .i64 0]) := by
        have ht : tellA (valS names s) n = .ok x := by
          unfold tellA
          rw [hv]
          exact if_neg hr
        show _ = _
        rw [ht]
        rfl
      have hn1 : ¬ n < 0 := by omega
      have hn2 : ¬ n > 20 := by omega
      clear hv HVS hr
      go_wp2_with fail
      refine bp_gen (fun W' => W'.heap[w.heap.size]? = some (.cells (numC x) 82 (0, 0)) ∧ Tb T r names W' ∧ Kp (· = r) w W') (H3.out.setz x) ?_
      rintro W ⟨hz, ht, hk⟩
      obtain ⟨z0, z1, z2, z3⟩ := four_cells hz
      rw [HV.out]
      exact bodyPost_ret (v := .tuple #[.agg (numC x), .int .i64 0, .int .i64 0]) (by simp [results, Tryz.results44, go_sem, z0, z1, z2, z3]) rfl ⟨rfl, ht, hk⟩
  · have HV : Hid (ansV (tellA (valS names s) n) = .tuple #[.agg (numC ⟨⟨0, 0⟩, ⟨0, 0⟩⟩), .int .i64 q, .int .i64 p]) := by
      show _ = _
      rw [hv]
      rfl
    rw [hv]
    have e1 : ansV (.err q p) = .tuple #[.agg (numC ⟨⟨0, 0⟩, ⟨0, 0⟩⟩), .int .i64 q, .int .i64 p] := rfl
    rw [e1]
    have hne : (q == 0) = false := by simpa using hq
    clear hv hq e1 HVS
    go_upto_region 2 with fail
    have h3 := h2.below (fr_below w2 (.cells (numC ⟨⟨0, 0⟩, ⟨0, 0⟩⟩) 82))
    have hx3 := heap_alloc_new w2 (.cells (numC ⟨⟨0, 0⟩, ⟨0, 0⟩⟩) 82)
    generalize w2.alloc _ = W3 at *
    generalize w2.heap.size = bx at *
    obtain ⟨x0, x1, x2, x3⟩ := four_cells hx3
    obtain ⟨z0, z1, z2, z3⟩ := four_cells h3.hz
    obtain ⟨f0, f1, f2, f3⟩ := four_frozen h3.hz
    have H3 := hidMk h3
    clear h2 h3 hx3
    go_wp2_with fail
    refine bp_gen (fun W' => W'.heap[w.heap.size]? = some (.cells (numC ⟨⟨0, 0⟩, ⟨0, 0⟩⟩) 82 (0, 0)) ∧ Tb T r names W' ∧ Kp (· = r) w W') (H3.out.setz ⟨⟨0, 0⟩, ⟨0, 0⟩⟩) ?_
    rintro W ⟨hz, ht, hk⟩
    obtain ⟨z0, z1, z2, z3⟩ := four_cells hz
    rw [HV.out]
    exact bodyPost_ret (v := .tuple #[.agg (numC ⟨⟨0, 0⟩, ⟨0, 0⟩⟩), .int .i64 q, .int .i64 p]) (by simp [results, Tryz.results44, go_sem, z0, z1, z2, z3]) rfl ⟨rfl, ht, hk⟩
end Go.Proofs.YtodabmkcihafhaaGreatDoor

/- Near: the book's Near; the law Nears. -/
namespace Go.Proofs.YtodabmkcihafhaaGreatDoor
open Go.RowKit
set_option linter.unusedVariables false

structure NA (N : Nat) (aZ aB : Addr) (K P m T r : Nat) (names : List (Int × Num)) (w : World) (z : Array Value) (W : World) : Prop where
  bk : Bk N aZ aB K P m T r names W
  hz : W.heap[w.heap.size]? = some (.cells z 106 (0, 0))
  hr : r < w.heap.size
  hk : Kp (· = r) w W
section
variable {N : Nat} {aZ aB : Addr} {K P m T r : Nat} {names : List (Int × Num)} {w : World} {z : Array Value} {W W' : World}
theorem NA.below (h : NA N aZ aB K P m T r names w z W) (g : Below W.heap.size W W') : NA N aZ aB K P m T r names w z W' :=
  ⟨h.bk.below g, (g.block _ (Array.getElem?_eq_some_iff.1 h.hz).1).trans h.hz, h.hr, h.hk.below g⟩
theorem NA.kept (h : NA N aZ aB K P m T r names w z W) (g : Kp (· = r) W W') (ht : Tb T r names W') : NA N aZ aB K P m T r names w z W' :=
  ⟨h.bk.kept g ht, (g.block _ (Array.getElem?_eq_some_iff.1 h.hz).1 (by have := h.hr; omega)).trans h.hz, h.hr, h.hk.trans g⟩
theorem NA.set {a b : Value} (h : NA N aZ aB K P m T r names w #[a, b] W) (x y : Value) :
    ((W.setCell ⟨w.heap.size, 0, none⟩ x).setCell ⟨w.heap.size, 1, none⟩ y).heap[w.heap.size]? = some (.cells #[x, y] 106 (0, 0)) ∧ Tb T r names ((W.setCell ⟨w.heap.size, 0, none⟩ x).setCell ⟨w.heap.size, 1, none⟩ y) ∧ Kp (· = r) w ((W.setCell ⟨w.heap.size, 0, none⟩ x).setCell ⟨w.heap.size, 1, none⟩ y) := by
  have hr := h.hr
  refine ⟨two_set h.hz _ _, ?_, (h.hk.setCell (p := ⟨w.heap.size, 0, none⟩) (Or.inr (Nat.le_refl _)) _).setCell (p := ⟨w.heap.size, 1, none⟩) (Or.inr (Nat.le_refl _)) _⟩
  obtain ⟨es, clock, h1, h2⟩ := h.bk.pw.tb.hr
  have nT : T ≠ w.heap.size := fun e => by
    have := h.hz
    rw [← e, h.bk.pw.tb.ht] at this
    simp at this
  have nr : r ≠ w.heap.size := by omega
  refine ⟨?_, es, clock, ?_, h2⟩
  · rw [two_other nT]; exact h.bk.pw.tb.ht
  · rw [two_other nr]; exact h1
end
set_option maxHeartbeats 4000000 in
set_option maxRecDepth 100000 in
theorem bnear_any (N : Nat) (aZ aB : Addr) (K P m T r : Nat) (names : List (Int × Num)) (s : ByteArray) (n : Int) (w : World) (h : Bk N aZ aB K P m T r names w) :
    Calls Tryz.prog 47 #[.pointer (some ⟨K, 0, none⟩), .string s, .int .i64 n] w fun e w' => e = .returned (.tuple #[.agg #[.int .i64 (nrRe (valS names s) n), .int .i64 (nrIm (valS names s) n)], .int .i64 (ansE (tellA (valS names s) n)), .int .i64 (ansP (tellA (valS names s) n))]) ∧ Tb T r names w' ∧ Kp (· = r) w w' := by
  have hrl : r < w.heap.size := by obtain ⟨es, c, h1, _⟩ := h.pw.tb.hr; exact (Array.getElem?_eq_some_iff.1 h1).1
  have h0 : NA N aZ aB K P m T r names w #[.int .i64 0, .int .i64 0] (w.alloc (.cells #[.int .i64 0, .int .i64 0] 106)) :=
    ⟨h.below (fr_below w _), heap_alloc_new w _, hrl, (Kp.refl _ w).alloc _⟩
  have CT := hidMk (fun W hW => told_any N aZ aB K P m T r names s n W hW)
  have HX := hidMk (fun x (hv : valS names s = .ok x) => valS_num h.pw.nm hv)
  have HVS := hidMk (valS_cases names s h.pw.nm)
  clear h hrl
  have HT : Hid ((∃ x, tellA (valS names s) n = .ok x ∧ x.Ok ∧ 0 ≤ n ∧ n ≤ 20) ∨ ∃ q p, tellA (valS names s) n = .err q p ∧ q ≠ 0) := by
    rcases HVS.out with ⟨x, hv⟩ | ⟨q, p, hv, hq⟩
    · by_cases hr : n < 0 ∨ n > 20
      · exact Or.inr ⟨6, 0, by unfold tellA; rw [hv]; exact if_pos hr, by decide⟩
      · exact Or.inl ⟨x, by unfold tellA; rw [hv]; exact if_neg hr, HX.out x hv, by omega, by omega⟩
    · exact Or.inr ⟨q, p, by rw [hv]; rfl, hq⟩
  clear HX HVS
  go_enter Tryz.func47, Tryz.ntmps47
  go_upto_region 1 with fail
  generalize w.alloc _ = W at *
  have H0 := hidMk h0
  clear h0
  go_wp2_with fail
  refine (CT.out _ H0.out.bk).mono ?_
  rintro e w1 ⟨rfl, ht1, hk1⟩
  have h1 := H0.out.kept hk1 ht1
  clear H0 ht1 hk1 CT
  rcases HT.out with ⟨x, hv, hx, hn0, hn1⟩ | ⟨q, p, hv, hq⟩
  · obtain ⟨k, rfl⟩ : ∃ k : Nat, n = k := ⟨n.toNat, by omega⟩
    rw [hv]
    have e1 : ansV (.ok x) = .tuple #[.agg (numC x), .int .i64 0, .int .i64 0] := rfl
    rw [e1]
    have C1 := hidMk (fun W => nnear_any x k W hx (by omega))
    have HV : Hid (nrRe (valS names s) k = nrP x.re k ∧ nrIm (valS names s) k = nrP x.im k ∧ ansE (tellA (valS names s) k) = 0 ∧ ansP (tellA (valS names s) k) = 0) := by
      unfold nrRe nrIm
      rw [hv]
      exact ⟨rfl, rfl, rfl, rfl⟩
    clear hv hx e1 HT
    go_upto_region 2 with fail
    have h2 := h1.below (fr_below w1 (.cells (numC x) 82))
    have hx2 := heap_alloc_new w1 (.cells (numC x) 82)
    generalize w1.alloc _ = W2 at *
    generalize w1.heap.size = b9 at *
    obtain ⟨x0, x1, x2, x3⟩ := four_cells hx2
    have H2 := hidMk h2
    clear h1 h2 hx2
    go_wp2_with fail
    refine (C1.out _).mono ?_
    rintro e w3 ⟨rfl, hb3⟩
    have h3 := H2.out.below hb3
    obtain ⟨z0, z1, f0, f1⟩ := two_cells h3.hz
    have HAD : Hid (∃ A D, nrP x.re k = A ∧ nrP x.im k = D) := ⟨_, _, rfl, rfl⟩
    obtain ⟨A, D, hA, hD⟩ := HAD.out
    rw [hA, hD]
    have HA := hidMk (And.intro hA hD)
    have H3 := hidMk h3
    clear H2 hb3 C1 x0 x1 x2 x3 HAD hA hD h3
    go_wp2_with fail
    refine bp_gen (fun W' => W'.heap[w.heap.size]? = some (.cells #[.int .i64 A, .int .i64 D] 106 (0, 0)) ∧ Tb T r names W' ∧ Kp (· = r) w W') (H3.out.set _ _) ?_
    rintro W ⟨hz, ht, hk⟩
    obtain ⟨z0, z1, _, _⟩ := two_cells hz
    exact bodyPost_ret (v := .tuple #[.agg #[.int .i64 A, .int .i64 D], .int .i64 0, .int .i64 0]) (by simp [results, Tryz.results47, go_sem, z0, z1]) rfl ⟨by rw [HV.out.1, HV.out.2.1, HV.out.2.2.1, HV.out.2.2.2, HA.out.1, HA.out.2], ht, hk⟩
  · rw [hv]
    have e1 : ansV (.err q p) = .tuple #[.agg (numC ⟨⟨0, 0⟩, ⟨0, 0⟩⟩), .int .i64 q, .int .i64 p] := rfl
    rw [e1]
    have hne : (q != 0) = true := by simpa using hq
    have HV : Hid (nrRe (valS names s) n = 0 ∧ nrIm (valS names s) n = 0 ∧ ansE (tellA (valS names s) n) = q ∧ ansP (tellA (valS names s) n) = p) := by
      unfold nrRe nrIm
      rw [hv]
      exact ⟨rfl, rfl, rfl, rfl⟩
    clear hv hq e1 HT
    go_upto_region 2 with fail
    have h2 := h1.below (fr_below w1 (.cells (numC ⟨⟨0, 0⟩, ⟨0, 0⟩⟩) 82))
    generalize w1.alloc _ = W2 at *
    generalize w1.heap.size = b9 at *
    obtain ⟨z0, z1, f0, f1⟩ := two_cells h2.hz
    have H3 := hidMk h2
    clear h1 h2
    go_wp2_with fail
    refine bp_gen (fun W' => W'.heap[w.heap.size]? = some (.cells #[.int .i64 0, .int .i64 0] 106 (0, 0)) ∧ Tb T r names W' ∧ Kp (· = r) w W') (H3.out.set _ _) ?_
    rintro W ⟨hz, ht, hk⟩
    obtain ⟨z0, z1, _, _⟩ := two_cells hz
    exact bodyPost_ret (v := .tuple #[.agg #[.int .i64 0, .int .i64 0], .int .i64 q, .int .i64 p]) (by simp [results, Tryz.results47, go_sem, z0, z1]) rfl ⟨by rw [HV.out.1, HV.out.2.1, HV.out.2.2.1, HV.out.2.2.2], ht, hk⟩
end Go.Proofs.YtodabmkcihafhaaGreatDoor

/- The law's nears, and the law Nears. -/
namespace Go.Proofs.YtodabmkcihafhaaGreatDoor
open Go.RowKit
set_option linter.unusedVariables false

theorem eq2 (a b a' b' : Int) (W : World) : (Op.equalIn 10000 106 (.agg #[.int .i64 a, .int .i64 b]) (.agg #[.int .i64 a', .int .i64 b'])).run Tryz.prog W = .ok (a == a' && (b == b' && true)) W := by
  obtain ⟨i, hi⟩ : ∃ i, Tryz.prog.info? 3 = some i := Option.isSome_iff_exists.1 (by kernel_rfl)
  have hc : Tryz.prog.cellsOf 3 = 1 := by kernel_rfl
  rw [show (10000 : Nat) = 9999 + 1 from rfl, run_equalIn_array W 9999 _ _ Tryz.underlying106 hi, hc]
  have hr : List.range 2 = [0, 1] := rfl
  rw [hr]
  exact eq_step rfl rfl W (eq_step rfl rfl W (by simp [Op.eqItems]))
theorem eq2_same (a b : Int) (W : World) : (Op.equalIn 10000 106 (.agg #[.int .i64 a, .int .i64 b]) (.agg #[.int .i64 a, .int .i64 b])).run Tryz.prog W = .ok true W := by
  rw [eq2]; simp
set_option maxHeartbeats 4000000 in
set_option maxRecDepth 100000 in
theorem nears_any (N : Nat) (aZ aB : Addr) (K P m T r B : Nat) (names : List (Int × Num)) (s : ByteArray) (n : Int) (w : World) (h : Pr N aZ aB K P m T r B names w) :
    Calls Tryz.prog 28 #[prV K B, .string s, .int .i64 n] w fun e w' => e = .returned (.bool true) ∧ Tb T r names w' ∧ Kp (· = r) w w' := by
  have h0 := LV.new h
  have CV := hidMk (fun W hW => bnear_any N aZ aB K P m T r names s n W hW)
  have CN := hidMk (fun W hW => rnear_any B names s n W h.nl h.bk.pw.nm hW)
  clear h
  generalize nrRe (valS names s) n = a at *
  generalize nrIm (valS names s) n = b at *
  generalize ansE (tellA (valS names s) n) = q at *
  generalize ansP (tellA (valS names s) n) = p at *
  go_enter Tryz.func28, Tryz.ntmps28
  go_upto_region 1 with fail
  generalize w.alloc _ = W at *
  obtain ⟨c0, c1, _, _⟩ := two_cells h0.hx
  have H0 := hidMk h0
  clear h0
  go_wp2_with fail
  refine (CV.out _ H0.out.pr.bk).mono ?_
  rintro e w1 ⟨rfl, ht1, hk1⟩
  have h1 := H0.out.kept hk1 ht1
  clear H0 ht1 hk1 CV c0 c1
  go_upto_region 2 with fail
  have h2 := h1.below (fr_below w1 (.cells #[.int .i64 a, .int .i64 b] 106))
  have hx2 := heap_alloc_new w1 (.cells #[.int .i64 a, .int .i64 b] 106)
  generalize w1.alloc _ = W2 at *
  generalize w1.heap.size = b5 at *
  obtain ⟨c0, c1, _, _⟩ := two_cells h2.hx
  have H2 := hidMk h2
  have HX2 := hidMk hx2
  clear h1 h2 hx2
  go_wp2_with fail
  refine (CN.out _ H2.out.pr.nr).mono ?_
  rintro e w3 ⟨rfl, hb3⟩
  have h3 := H2.out.below hb3
  have hx3 := (hb3.block _ (Array.getElem?_eq_some_iff.1 HX2.out).1).trans HX2.out
  clear H2 HX2 hb3 CN c0 c1
  have C15 := hidMk (fun e W => num_any e W)
  go_upto_region 4 with fail
  have h4 := h3.below (fr_below w3 (.cells #[.int .i64 a, .int .i64 b] 106))
  have hx4 := (Below.heap_alloc w3 (.cells #[.int .i64 a, .int .i64 b] 106) _ (Array.getElem?_eq_some_iff.1 hx3).1).trans hx3
  have hy4 := heap_alloc_new w3 (.cells #[.int .i64 a, .int .i64 b] 106)
  generalize w3.alloc _ = W4 at *
  generalize w3.heap.size = b8 at *
  obtain ⟨x0, x1, _, _⟩ := two_cells hx4
  obtain ⟨y0, y1, _, _⟩ := two_cells hy4
  have HR : Hid (Tb T r names W4 ∧ Kp (· = r) w W4) := ⟨h4.pr.bk.pw.tb, h4.hk⟩
  clear h3 hx3 h4 hx4 hy4
  have heq := eq2_same a b W4
  go_wp2_with (go_at_call 15; refine (C15.out _ _).mono ?_; rintro e w7 ⟨rfl, rfl⟩)
  go_ret
  exact ⟨rfl, HR.out⟩

set_option maxHeartbeats 4000000 in
set_option maxRecDepth 100000 in
theorem nears_law (N : Nat) (aZ aB : Addr) (s : ByteArray) (n : Int) (w : World) (hS : Sen N aZ aB w) (hN : N ≤ w.heap.size) (hn : (Lit.int .i64 n).wf = true) :
    Calls Tryz.prog 10 #[.string s, .int .i64 n] w fun e w' => e = .returned (.bool true) ∧ Below w.heap.size w w' := by
  have C1 := hidMk (pair_any N aZ aB w hS hN)
  clear hS hN hn
  go_enter Tryz.func10, Tryz.ntmps10
  go_wp2_with fail
  refine C1.out.mono ?_
  rintro e w1 ⟨K, P, m, T, r, B, rfl, hbk, hnr, hne, h1, h2, h3, h4, h5, h6, hb⟩
  go_upto_region 2 with fail
  have hp := (Pr.mk hbk hnr (Nat.zero_le _)).below (fr_below w1 (.cells #[.pointer (some ⟨K, 0, none⟩), .pointer (some ⟨B, 0, none⟩)] 34))
  have hb2 := hb.trans ((fr_below w1 (.cells #[.pointer (some ⟨K, 0, none⟩), .pointer (some ⟨B, 0, none⟩)] 34)).mono hb.size)
  have hx := heap_alloc_new w1 (.cells #[.pointer (some ⟨K, 0, none⟩), .pointer (some ⟨B, 0, none⟩)] 34)
  generalize w1.alloc _ = W at *
  generalize w1.heap.size = bx at *
  obtain ⟨c0, c1, _, _⟩ := two_cells hx
  have HP := hidMk hp
  have HB := hidMk hb2
  have HR := hidMk h1
  clear hbk hnr hne h1 h2 h3 h4 h5 h6 hb hp hb2 hx C1
  go_wp2_with fail
  refine (nears_any N aZ aB K P m T r B [] s n W HP.out).mono ?_
  rintro e w2 ⟨rfl, ht, hk⟩
  go_wp2_with fail
  go_ret
  refine ⟨rfl, HB.out.trans ⟨hk.os, hk.tape, hk.output, hk.size, fun k hkk => hk.block k ?_ ?_⟩⟩
  · have := HB.out.size; omega
  · have := HR.out; omega
end Go.Proofs.YtodabmkcihafhaaGreatDoor

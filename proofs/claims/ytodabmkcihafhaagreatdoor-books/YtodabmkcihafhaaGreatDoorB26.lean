import Derived.BigQuiet
import Derived.Test.YtodabmkcihafhaaGreatDoorB23
import Derived.Test.YtodabmkcihafhaaGreatDoorB25

/- Near: the program's number package. -/
namespace Go.Proofs.YtodabmkcihafhaaGreatDoor
open Go.RowKit
set_option linter.unusedVariables false

theorem tdiv_cases {a d : Int} (hd : 0 < d) : (a.tmod d < 0 → a / d = a.tdiv d - 1 ∧ a % d = a.tmod d + d) ∧ (0 ≤ a.tmod d → a / d = a.tdiv d ∧ a % d = a.tmod d) := by
  have h1 := Int.mul_tdiv_add_tmod a d
  have h2 := Int.tmod_lt_of_pos a hd
  have h3 : -d < a.tmod d := by
    have := Int.tmod_lt_of_pos (-a) hd
    rw [Int.neg_tmod] at this
    omega
  generalize a.tdiv d = t at *
  generalize a.tmod d = r at *
  constructor
  · intro hr
    refine (Int.ediv_emod_unique hd).2 ⟨?_, by omega, by omega⟩
    rw [Int.mul_sub]
    omega
  · intro hr
    exact (Int.ediv_emod_unique hd).2 ⟨by omega, by omega, by omega⟩
theorem tdiv_abs (a d : Int) : (a.tdiv d).natAbs ≤ a.natAbs := by
  rw [Int.natAbs_tdiv]
  exact Nat.div_le_self _ _
set_option maxHeartbeats 1000000 in
theorem floor_any (a d : Int) (w : World) (hd : 0 < d) (hd2 : d ≤ 999999) (ha : -1048574951424 ≤ a ∧ a ≤ 1048574951424) : Calls Tryz.prog 139 #[.int .i64 a, .int .i64 d] w fun e w' => e = .returned (.tuple #[.int .i64 (a / d), .int .i64 (a % d)]) ∧ Below w.heap.size w w' := by
  have d0 : d ≠ 0 := by omega
  have dm : d ≠ -1 := by omega
  go_enter Tryz.func139, Tryz.ntmps139
  go_upto_region 1 with fail
  go_region
  obtain ⟨c1, c2⟩ := tdiv_cases (a := a) hd
  have hb := tdiv_abs a d
  have hm2 := Int.tmod_lt_of_pos a hd
  have hm3 : -d < a.tmod d := by
    have := Int.tmod_lt_of_pos (-a) hd
    rw [Int.neg_tmod] at this
    omega
  generalize a.tdiv d = t at *
  generalize a.tmod d = r at *
  have w1 : wrap64 (t - 1) = t - 1 := by unfold wrap64; omega
  have w2 : wrap64 (r + d) = r + d := by unfold wrap64; omega
  have hbl : Below w.heap.size w w.drew := (Below.refl _ w).drew
  by_cases hr : r < 0
  · obtain ⟨e1, e2⟩ := c1 hr
    have E1 := hidMk e1
    have E2 := hidMk e2
    clear e1 e2 c1 c2
    go_wp2_with fail
    go_ret2
    exact ⟨by rw [E1.out, E2.out]; rfl, hbl⟩
  · obtain ⟨e1, e2⟩ := c2 (by omega)
    have E1 := hidMk e1
    have E2 := hidMk e2
    clear e1 e2 c1 c2
    go_wp2_with fail
    go_ret2
    exact ⟨by rw [E1.out, E2.out]; rfl, hbl⟩
set_option maxHeartbeats 2000000 in
set_option maxRecDepth 100000 in
theorem fnear_any (f : Fr) (n : Nat) (w : World) (hf : f.Ok) (hn : n ≤ 20) : Calls Tryz.prog 109 #[.agg #[.int .i64 f.n, .int .i64 f.d], .int .i64 n] w fun e w' => e = .returned (.int .i64 (nrP f n)) ∧ Below w.heap.size w w' := by
  obtain ⟨p1, p2⟩ := pow_le20 hn
  obtain ⟨M, hM⟩ : ∃ M : Int, f.n * 2 ^ n = M := ⟨_, rfl⟩
  have hsame := near_same hf n
  obtain ⟨d1, d2, n1, n2, _⟩ := hf
  have m1 : -1048574951424 ≤ M ∧ M ≤ 1048574951424 := by
    rw [← hM]
    have h1 : (f.n * 2 ^ n).natAbs = f.n.natAbs * (2 ^ n : Int).natAbs := Int.natAbs_mul _ _
    have h2 := Nat.mul_le_mul (show f.n.natAbs ≤ 999999 by omega) (show (2 ^ n : Int).natAbs ≤ 1048576 by omega)
    omega
  have CF := hidMk (fun W => floor_any M f.d W d1 d2 m1)
  have hx := heap_alloc_new w (.cells #[.int .i64 f.n, .int .i64 f.d] 80)
  have hb := fr_below w (.cells #[.int .i64 f.n, .int .i64 f.d] 80)
  have wM : wrap64 (f.n * 2 ^ n) = M := by rw [hM]; unfold wrap64; omega
  rw [hM] at hsame
  unfold nrF at hsame
  have HS := hidMk hsame
  clear hsame
  go_enter Tryz.func109, Tryz.ntmps109
  go_upto_region 1 with fail
  generalize w.alloc _ = W at *
  have HX2 := hidMk hx
  have HB2 := hidMk hb
  clear hx hb hM p1 p2
  generalize f.n = fn at *
  generalize f.d = fd at *
  refine region_inv (nt := 37) _
    (fun j v => match j with
      | 0 => v = .pointer (some ⟨w.heap.size, 0, none⟩)
      | 1 => v = .int .i64 fn
      | 2 => v = .int .i64 n
      | 3 => v = .int .i64 M
      | 4 => v = .pointer (some ⟨w.heap.size, 1, none⟩)
      | 5 => v = .int .i64 fd
      | 6 => v = .tuple #[.int .i64 (M / fd), .int .i64 (M % fd)]
      | 7 => v = .tuple #[.int .i64 (M / fd), .int .i64 (M % fd)]
      | 8 => v = .int .i64 (M / fd)
      | 9 => v = .int .i64 (M % fd)
      | 10 => v = .int .i64 (M / fd)
      | 11 => v = .int .i64 (M % fd)
      | _ => True)
    (fun b u w' => Hid (w'.heap[w.heap.size]? = some (.cells #[.int .i64 fn, .int .i64 fd] 80 (0, 0)) ∧ Below w.heap.size w w'))
    (act_of rfl rfl) (by kernel_rfl) (by kernel_rfl) (by kernel_rfl) ⟨HX2.out, HB2.out.drew⟩ ?_ ?_
  · intro i o b u w' ho hbi hall hU hW K hK
    have hA : actOf 37 u = ⟨#[u 0, u 1, u 2, u 3, u 4, u 5, u 6, u 7, u 8, u 9, u 10, u 11, u 12, u 13, u 14, u 15, u 16, u 17, u 18, u 19, u 20, u 21, u 22, u 23, u 24, u 25, u 26, u 27, u 28, u 29, u 30, u 31, u 32, u 33, u 34, u 35, u 36], []⟩ := rfl
    rw [hA] at hK ⊢
    have c1 : u 1 = .int .i64 n := hU.oldB 1 (by kernel_rfl)
    have c2 : u 2 = .pointer (some ⟨w.heap.size, 0, none⟩) := hU.oldB 2 (by kernel_rfl)
    have got := hU.got
    have HW := hW
    have HKK := hidMk hK
    clear hU hA hK hW
    obtain ⟨x0, x1, _, _⟩ := two_cells HW.out.1
    rcases i with _ | _ | _ | _ | _ | _ | _ | _ | _ | _ | _ | _ | i
    · cases ho
      go_simp
      exact HKK.out _ _ _ (by rw [c1, c2]; rfl) (fun _ => rfl) ⟨HW.out.1, HW.out.2⟩
    · cases ho
      have g8 : u 8 = .pointer (some ⟨w.heap.size, 0, none⟩) := got 0 8 rfl (hall ⟨0, .data⟩ (by simp) rfl)
      go_simp
      exact HKK.out _ _ _ (by rw [c1, c2, g8]; rfl) (fun _ => rfl) ⟨HW.out.1, HW.out.2⟩
    · cases ho
      go_simp
      exact HKK.out _ _ _ (by rw [c1, c2]; rfl) (fun _ => rfl) ⟨HW.out.1, HW.out.2⟩
    · cases ho
      have g9 : u 9 = .int .i64 fn := got 1 9 rfl (hall ⟨1, .data⟩ (by simp) rfl)
      have g10 : u 10 = .int .i64 n := got 2 10 rfl (hall ⟨2, .data⟩ (by simp) rfl)
      go_simp
      exact HKK.out _ _ _ (by rw [c1, c2, g9, g10]; rfl) (fun _ => show Value.int .i64 (IntKind.i64.wrap (fn * 2 ^ n)) = .int .i64 M from by rw [show IntKind.i64.wrap (fn * 2 ^ n) = wrap64 (fn * 2 ^ n) from by unfold wrap64; exact IntKind.wrap_i64 (fn * 2 ^ n), wM]) ⟨HW.out.1, HW.out.2⟩
    · cases ho
      go_simp
      exact HKK.out _ _ _ (by rw [c1, c2]; rfl) (fun _ => rfl) ⟨HW.out.1, HW.out.2⟩
    · cases ho
      have g12 : u 12 = .pointer (some ⟨w.heap.size, 1, none⟩) := got 4 12 rfl (hall ⟨4, .data⟩ (by simp) rfl)
      go_simp
      exact HKK.out _ _ _ (by rw [c1, c2, g12]; rfl) (fun _ => rfl) ⟨HW.out.1, HW.out.2⟩
    · cases ho
      have g11 : u 11 = .int .i64 M := got 3 11 rfl (hall ⟨3, .data⟩ (by simp) rfl)
      have g13 : u 13 = .int .i64 fd := got 5 13 rfl (hall ⟨5, .data⟩ (by simp) rfl)
      go_simp
      refine (CF.out _).mono ?_
      rintro e w9 ⟨rfl, hb9⟩
      exact HKK.out _ _ _ (by rw [c1, c2, g11, g13]; rfl) (fun _ => rfl) ⟨(hb9.block _ (Array.getElem?_eq_some_iff.1 HW.out.1).1).trans HW.out.1, HW.out.2.trans (hb9.mono HW.out.2.size)⟩
    · cases ho
      have g14 : u 14 = .tuple #[.int .i64 (M / fd), .int .i64 (M % fd)] := got 6 14 rfl (hall ⟨6, .data⟩ (by simp) rfl)
      go_simp
      exact HKK.out _ _ _ (by rw [c1, c2, g14]; rfl) (fun _ => rfl) ⟨HW.out.1, HW.out.2⟩
    · cases ho
      have g7 : u 7 = .tuple #[.int .i64 (M / fd), .int .i64 (M % fd)] := got 7 7 rfl (hall ⟨7, .data⟩ (by simp) rfl)
      go_simp
      exact HKK.out _ _ _ (by rw [c1, c2, g7]; rfl) (fun _ => rfl) ⟨HW.out.1, HW.out.2⟩
    · cases ho
      have g7 : u 7 = .tuple #[.int .i64 (M / fd), .int .i64 (M % fd)] := got 7 7 rfl (hall ⟨7, .data⟩ (by simp) rfl)
      go_simp
      exact HKK.out _ _ _ (by rw [c1, c2, g7]; rfl) (fun _ => rfl) ⟨HW.out.1, HW.out.2⟩
    · cases ho
      have g15 : u 15 = .int .i64 (M / fd) := got 8 15 rfl (hall ⟨8, .data⟩ (by simp) rfl)
      go_simp
      exact HKK.out _ _ _ (by rw [c1, c2, g15]; rfl) (fun _ => rfl) ⟨HW.out.1, HW.out.2⟩
    · cases ho
      have g16 : u 16 = .int .i64 (M % fd) := got 9 16 rfl (hall ⟨9, .data⟩ (by simp) rfl)
      go_simp
      exact HKK.out _ _ _ (by rw [c1, c2, g16]; rfl) (fun _ => rfl) ⟨HW.out.1, HW.out.2⟩
    · simp at ho
  · intro b u w' hall hU hW
    have e5' : u 5 = .int .i64 (M / fd) := hU.got 10 5 rfl (hall 10 (by decide))
    have e6' : u 6 = .int .i64 (M % fd) := hU.got 11 6 rfl (hall 11 (by decide))
    have hA : actOf 37 u = ⟨#[u 0, u 1, u 2, u 3, u 4, u 5, u 6, u 7, u 8, u 9, u 10, u 11, u 12, u 13, u 14, u 15, u 16, u 17, u 18, u 19, u 20, u 21, u 22, u 23, u 24, u 25, u 26, u 27, u 28, u 29, u 30, u 31, u 32, u 33, u 34, u 35, u 36], []⟩ := rfl
    have e0 : u 0 = .agg #[.int .i64 fn, .int .i64 fd] := hU.oldB 0 (by kernel_rfl)
    have e1 : u 1 = .int .i64 n := hU.oldB 1 (by kernel_rfl)
    have e2 : u 2 = .pointer (some ⟨w.heap.size, 0, none⟩) := hU.oldB 2 (by kernel_rfl)
    have e3 : u 3 = undef := hU.oldB 3 (by kernel_rfl)
    have e4 : u 4 = .int .i64 0 := hU.oldB 4 (by kernel_rfl)
    have e17 : u 17 = undef := hU.oldB 17 (by kernel_rfl)
    have e18 : u 18 = undef := hU.oldB 18 (by kernel_rfl)
    have e19 : u 19 = undef := hU.oldB 19 (by kernel_rfl)
    have e20 : u 20 = undef := hU.oldB 20 (by kernel_rfl)
    have e21 : u 21 = undef := hU.oldB 21 (by kernel_rfl)
    have e22 : u 22 = undef := hU.oldB 22 (by kernel_rfl)
    have e23 : u 23 = undef := hU.oldB 23 (by kernel_rfl)
    have e24 : u 24 = undef := hU.oldB 24 (by kernel_rfl)
    have e25 : u 25 = undef := hU.oldB 25 (by kernel_rfl)
    have e26 : u 26 = undef := hU.oldB 26 (by kernel_rfl)
    have e27 : u 27 = undef := hU.oldB 27 (by kernel_rfl)
    have e28 : u 28 = undef := hU.oldB 28 (by kernel_rfl)
    have e29 : u 29 = undef := hU.oldB 29 (by kernel_rfl)
    have e30 : u 30 = undef := hU.oldB 30 (by kernel_rfl)
    have e31 : u 31 = undef := hU.oldB 31 (by kernel_rfl)
    have e32 : u 32 = undef := hU.oldB 32 (by kernel_rfl)
    have e33 : u 33 = undef := hU.oldB 33 (by kernel_rfl)
    have e34 : u 34 = undef := hU.oldB 34 (by kernel_rfl)
    have e35 : u 35 = undef := hU.oldB 35 (by kernel_rfl)
    have e36 : u 36 = undef := hU.oldB 36 (by kernel_rfl)
    rw [hA, e0, e1, e2, e3, e4, e17, e18, e19, e20, e21, e22, e23, e24, e25, e26, e27, e28, e29, e30, e31, e32, e33, e34, e35, e36]
    clear hA e0 e1 e2 e3 e4 e17 e18 e19 e20 e21 e22 e23 e24 e25 e26 e27 e28 e29 e30 e31 e32 e33 e34 e35 e36
    rw [e5', e6']
    have HW := hidMk hW.out
    clear hU hW hall e5' e6' CF HX2 HB2 wM
    obtain ⟨c0, c1, _, _⟩ := two_cells HW.out.1
    have r1 := Int.emod_nonneg M (show fd ≠ 0 by omega)
    have r2 := Int.emod_lt_of_pos M d1
    have hq : (M / fd).natAbs ≤ M.natAbs + 1 := by
      obtain ⟨k1, k2⟩ := tdiv_cases (a := M) d1
      have k3 := tdiv_abs M fd
      rcases Int.lt_or_le (M.tmod fd) 0 with h | h
      · have := (k1 h).1
        omega
      · have := (k2 h).1
        omega
    have w2r : wrap64 (2 * (M % fd)) = 2 * (M % fd) := by unfold wrap64; omega
    have hs := HS.out
    generalize M % fd = rr at *
    generalize M / fd = q at *
    have wq : wrap64 (q + 1) = q + 1 := by unfold wrap64; omega
    have hodd : q.tmod 2 = 0 ↔ q % 2 = 0 := by
      obtain ⟨k1, k2⟩ := tdiv_cases (a := q) (d := 2) (by decide)
      have k3 := Int.tmod_lt_of_pos q (show (0 : Int) < 2 by decide)
      have k4 := Int.tmod_lt_of_pos (-q) (show (0 : Int) < 2 by decide)
      rw [Int.neg_tmod] at k4
      rcases Int.lt_or_le (q.tmod 2) 0 with h | h
      · have := (k1 h).2
        omega
      · have := (k2 h).2
        omega
    have HS2 := hidMk hs
    clear hs HS
    by_cases h1 : 2 * rr > fd
    · go_wp2_with fail
      go_ret
      exact ⟨by rw [← HS2.out, if_pos (show 2 * rr > fd ∨ 2 * rr = fd ∧ q % 2 ≠ 0 by omega)]; rfl, HW.out.2⟩
    · by_cases h3 : 2 * rr = fd
      · by_cases h4 : q.tmod 2 = 0
        · have h5 := hodd.1 h4
          go_wp2_with fail
          go_ret
          exact ⟨by rw [← HS2.out, if_neg (show ¬ (2 * rr > fd ∨ 2 * rr = fd ∧ q % 2 ≠ 0) by omega)]; rfl, HW.out.2⟩
        · have h5 : q % 2 ≠ 0 := fun h => h4 (hodd.2 h)
          go_wp2_with fail
          go_ret
          exact ⟨by rw [← HS2.out, if_pos (show 2 * rr > fd ∨ 2 * rr = fd ∧ q % 2 ≠ 0 by omega)]; rfl, HW.out.2⟩
      · go_wp2_with fail
        go_ret
        exact ⟨by rw [← HS2.out, if_neg (show ¬ (2 * rr > fd ∨ 2 * rr = fd ∧ q % 2 ≠ 0) by omega)]; rfl, HW.out.2⟩
end Go.Proofs.YtodabmkcihafhaaGreatDoor

/- Near: the program's Near, told. -/
namespace Go.Proofs.YtodabmkcihafhaaGreatDoor
open Go.RowKit
set_option linter.unusedVariables false

set_option maxHeartbeats 2000000 in
set_option maxRecDepth 100000 in
theorem nnear_any (x : Num) (k : Nat) (w : World) (hx : x.Ok) (hk : k ≤ 20) : Calls Tryz.prog 72 #[.agg (numC x), .int .i64 k] w fun e w' => e = .returned (.tuple #[.int .i64 (nrP x.re k), .int .i64 (nrP x.im k)]) ∧ Below w.heap.size w w' := by
  have C1 := hidMk (fun W => fnear_any x.re k W hx.1 hk)
  have C2 := hidMk (fun W => fnear_any x.im k W hx.2 hk)
  have hx2 := heap_alloc_new w (.cells (numC x) 82)
  have hb2 := fr_below w (.cells (numC x) 82)
  have HV : Hid (∃ A D, nrP x.re k = A ∧ nrP x.im k = D) := ⟨_, _, rfl, rfl⟩
  obtain ⟨A, D, hA, hD⟩ := HV.out
  rw [hA] at C1
  rw [hD] at C2
  have HAD := hidMk (And.intro hA hD)
  clear HV hA hD hx
  go_enter Tryz.func72, Tryz.ntmps72
  go_upto_region 1 with fail
  generalize w.alloc _ = W2 at *
  have HX2 := hidMk hx2
  have HB2 := hidMk hb2
  clear hx2 hb2
  refine region_inv (nt := 14) _
    (fun j v => match j with
      | 0 => v = .pointer (some ⟨w.heap.size, 0, none⟩)
      | 1 => v = .agg #[.int .i64 x.re.n, .int .i64 x.re.d]
      | 2 => v = .int .i64 k
      | 3 => v = .int .i64 A
      | 4 => v = .pointer (some ⟨w.heap.size, 2, none⟩)
      | 5 => v = .agg #[.int .i64 x.im.n, .int .i64 x.im.d]
      | 6 => v = .int .i64 k
      | 7 => v = .int .i64 D
      | 8 => v = .int .i64 A
      | 9 => v = .int .i64 D
      | _ => True)
    (fun b u w' => Hid (w'.heap[w.heap.size]? = some (.cells (numC x) 82 (0, 0)) ∧ Below w.heap.size w w'))
    (act_of rfl rfl) (by kernel_rfl) (by kernel_rfl) (by kernel_rfl) ⟨HX2.out, HB2.out.drew⟩ ?_ ?_
  · intro i o b u w' ho hbi hall hU hW K hK
    have hA : actOf 14 u = ⟨#[u 0, u 1, u 2, u 3, u 4, u 5, u 6, u 7, u 8, u 9, u 10, u 11, u 12, u 13], []⟩ := rfl
    rw [hA] at hK ⊢
    have c1 : u 1 = .int .i64 k := hU.oldB 1 (by kernel_rfl)
    have c2 : u 2 = .pointer (some ⟨w.heap.size, 0, none⟩) := hU.oldB 2 (by kernel_rfl)
    have got := hU.got
    have HW := hW
    have HKK := hidMk hK
    clear hU hA hK hW
    obtain ⟨x0, x1, x2, x3⟩ := four_cells HW.out.1
    rcases i with _ | _ | _ | _ | _ | _ | _ | _ | _ | _ | i
    · cases ho
      go_simp
      exact HKK.out _ _ _ (by rw [c1, c2]; rfl) (fun _ => rfl) ⟨HW.out.1, HW.out.2⟩
    · cases ho
      have g6 : u 6 = .pointer (some ⟨w.heap.size, 0, none⟩) := got 0 6 rfl (hall ⟨0, .data⟩ (by simp) rfl)
      go_simp
      exact HKK.out _ _ _ (by rw [c1, c2, g6]; rfl) (fun _ => rfl) ⟨HW.out.1, HW.out.2⟩
    · cases ho
      go_simp
      exact HKK.out _ _ _ (by rw [c1, c2]; rfl) (fun _ => rfl) ⟨HW.out.1, HW.out.2⟩
    · cases ho
      have g7 : u 7 = .agg #[.int .i64 x.re.n, .int .i64 x.re.d] := got 1 7 rfl (hall ⟨1, .data⟩ (by simp) rfl)
      have g8 : u 8 = .int .i64 k := got 2 8 rfl (hall ⟨2, .data⟩ (by simp) rfl)
      go_simp
      refine (C1.out _).mono ?_
      rintro e w9 ⟨rfl, hb9⟩
      exact HKK.out _ _ _ (by rw [c1, c2, g7, g8]; rfl) (fun _ => rfl) ⟨(hb9.block _ (Array.getElem?_eq_some_iff.1 HW.out.1).1).trans HW.out.1, HW.out.2.trans (hb9.mono HW.out.2.size)⟩
    · cases ho
      go_simp
      exact HKK.out _ _ _ (by rw [c1, c2]; rfl) (fun _ => rfl) ⟨HW.out.1, HW.out.2⟩
    · cases ho
      have g10 : u 10 = .pointer (some ⟨w.heap.size, 2, none⟩) := got 4 10 rfl (hall ⟨4, .data⟩ (by simp) rfl)
      go_simp
      exact HKK.out _ _ _ (by rw [c1, c2, g10]; rfl) (fun _ => rfl) ⟨HW.out.1, HW.out.2⟩
    · cases ho
      go_simp
      exact HKK.out _ _ _ (by rw [c1, c2]; rfl) (fun _ => rfl) ⟨HW.out.1, HW.out.2⟩
    · cases ho
      have g11 : u 11 = .agg #[.int .i64 x.im.n, .int .i64 x.im.d] := got 5 11 rfl (hall ⟨5, .data⟩ (by simp) rfl)
      have g12 : u 12 = .int .i64 k := got 6 12 rfl (hall ⟨6, .data⟩ (by simp) rfl)
      go_simp
      refine (C2.out _).mono ?_
      rintro e w9 ⟨rfl, hb9⟩
      exact HKK.out _ _ _ (by rw [c1, c2, g11, g12]; rfl) (fun _ => rfl) ⟨(hb9.block _ (Array.getElem?_eq_some_iff.1 HW.out.1).1).trans HW.out.1, HW.out.2.trans (hb9.mono HW.out.2.size)⟩
    · cases ho
      have g9 : u 9 = .int .i64 A := got 3 9 rfl (hall ⟨3, .data⟩ (by simp) rfl)
      go_simp
      exact HKK.out _ _ _ (by rw [c1, c2, g9]; rfl) (fun _ => rfl) ⟨HW.out.1, HW.out.2⟩
    · cases ho
      have g13 : u 13 = .int .i64 D := got 7 13 rfl (hall ⟨7, .data⟩ (by simp) rfl)
      go_simp
      exact HKK.out _ _ _ (by rw [c1, c2, g13]; rfl) (fun _ => rfl) ⟨HW.out.1, HW.out.2⟩
    · simp at ho
  · intro b u w' hall hU hW
    have e4 : u 4 = .int .i64 A := hU.got 8 4 rfl (hall 8 (by decide))
    have e5 : u 5 = .int .i64 D := hU.got 9 5 rfl (hall 9 (by decide))
    have hA : actOf 14 u = ⟨#[u 0, u 1, u 2, u 3, u 4, u 5, u 6, u 7, u 8, u 9, u 10, u 11, u 12, u 13], []⟩ := rfl
    rw [hA, e4, e5]
    have HW := hidMk hW.out
    clear hU hW hall e4 e5 hA C1 C2
    go_wp2_with fail
    exact bodyPost_ret (v := .tuple #[.int .i64 A, .int .i64 D]) (by simp [results, Tryz.results72, go_sem]) rfl ⟨by rw [HAD.out.1, HAD.out.2], HW.out.2⟩

/-! ### What is told -/
set_option maxHeartbeats 4000000 in
set_option maxRecDepth 100000 in
theorem told_any (N : Nat) (aZ aB : Addr) (K P m T r : Nat) (names : List (Int × Num)) (s : ByteArray) (n : Int) (w : World) (h : Bk N aZ aB K P m T r names w) :
    Calls Tryz.prog 44 #[.pointer (some ⟨K, 0, none⟩), .string s, .int .i64 n] w fun e w' => e = .returned (ansV (tellA (valS names s) n)) ∧ Tb T r names w' ∧ Kp (· = r) w w' := by
  have hrl : r < w.heap.size := by obtain ⟨es, c, h1, _⟩ := h.pw.tb.hr; exact (Array.getElem?_eq_some_iff.1 h1).1
  have h0 : NW N aZ aB P m T r names w #[.int .i64 0, .int .i64 0, .int .i64 0, .int .i64 0] (w.alloc (.cells #[.int .i64 0, .int .i64 0, .int .i64 0, .int .i64 0] 82)) :=
    ⟨h.pw.below (fr_below w _), heap_alloc_new w _, hrl, (Kp.refl _ w).alloc _⟩
  have hk0 := (h.below (fr_below w (.cells #[.int .i64 0, .int .i64 0, .int .i64 0, .int .i64 0] 82))).hK
  have CC := hidMk (fun W hW => current_any K P W hW)
  have CN := hidMk (fun W hW => pnumber_any N aZ aB P m T r names s W hW)
  have HVS := hidMk (valS_cases names s h.pw.nm)
  clear h hrl
  go_enter Tryz.func44, Tryz.ntmps44
  go_upto_region 1 with fail
  generalize w.alloc _ = W at *
  have H0 := hidMk h0
  have HK0 := hidMk hk0
  clear h0 hk0
  go_wp2_with fail
  refine (CC.out _ HK0.out).mono ?_
  rintro e w1 ⟨rfl, hb1⟩
  have h1 := H0.out.below hb1
  clear H0 HK0 hb1
  have H1 := hidMk h1
  go_wp2_with fail
  refine (CN.out _ h1.pw).mono ?_
  rintro e w2 ⟨rfl, ht2, hk2⟩
  have h2 := H1.out.kept hk2 ht2
  clear H1 h1 hk2 ht2 CC CN
  rcases HVS.out with ⟨x, hv⟩ | ⟨q, p, hv, hq⟩
  · rw [hv]
    have e1 : ansV (.ok x) = .tuple #[.agg (numC x), .int .i64 0, .int .i64 0] := rfl
    rw [e1]
    go_upto_region 2 with fail
    have h3 := h2.below (fr_below w2 (.cells (numC x) 82))
    have hx3 := heap_alloc_new w2 (.cells (numC x) 82)
    generalize w2.alloc _ = W3 at *
    generalize w2.heap.size = bx at *
    obtain ⟨x0, x1, x2, x3⟩ := four_cells hx3
    obtain ⟨z0, z1, z2, z3⟩ := four_cells h3.hz
    obtain ⟨f0, f1, f2, f3⟩ := four_frozen h3.hz
    have H3 := hidMk h3
    clear h2 h3 hx3 e1
    by_cases hr : n < 0 ∨ n > 20
    · have HV : Hid (ansV (tellA (valS names s) n) = .tuple #[.agg (numC ⟨⟨0, 0⟩, ⟨0, 0⟩⟩), .int .i64 6, .int .i64 0]) := by
        have ht : tellA (valS names s) n = .err 6 0 := by
          unfold tellA
          rw [hv]
          exact if_pos hr
        show _ = _
        rw [ht]
        rfl
      clear hv HVS
      go_wp2_with fail
      all_goals
        refine bp_gen (fun W' => W'.heap[w.heap.size]? = some (.cells (numC ⟨⟨0, 0⟩, ⟨0, 0⟩⟩) 82 (0, 0)) ∧ Tb T r names W' ∧ Kp (· = r) w W') (H3.out.setz ⟨⟨0, 0⟩, ⟨0, 0⟩⟩) ?_
        rintro W ⟨hz, ht, hk⟩
        obtain ⟨z0, z1, z2, z3⟩ := four_cells hz
        rw [HV.out]
        exact bodyPost_ret (v := .tuple #[.agg (numC ⟨⟨0, 0⟩, ⟨0, 0⟩⟩), .int .i64 6, .int .i64 0]) (by simp [results, Tryz.results44, go_sem, z0, z1, z2, z3]) rfl ⟨rfl, ht, hk⟩
    · have HV : Hid (ansV (tellA (valS names s) n) = .tuple #[.agg (numC x), .int .i64 0, .int .i64 0]) := by
        have ht : tellA (valS names s) n = .ok x := by
          unfold tellA
          rw [hv]
          exact if_neg hr
        show _ = _
        rw [ht]
        rfl
      have hn1 : ¬ n < 0 := by omega
      have hn2 : ¬ n > 20 := by omega
      clear hv HVS hr
      go_wp2_with fail
      refine bp_gen (fun W' => W'.heap[w.heap.size]? = some (.cells (numC x) 82 (0, 0)) ∧ Tb T r names W' ∧ Kp (· = r) w W') (H3.out.setz x) ?_
      rintro W ⟨hz, ht, hk⟩
      obtain ⟨z0, z1, z2, z3⟩ := four_cells hz
      rw [HV.out]
      exact bodyPost_ret (v := .tuple #[.agg (numC x), .int .i64 0, .int .i64 0]) (by simp [results, Tryz.results44, go_sem, z0, z1, z2, z3]) rfl ⟨rfl, ht, hk⟩
  · have HV : Hid (ansV (tellA (valS names s) n) = .tuple #[.agg (numC ⟨⟨0, 0⟩, ⟨0, 0⟩⟩), .int .i64 q, .int .i64 p]) := by
      show _ = _
      rw [hv]
      rfl
    rw [hv]
    have e1 : ansV (.err q p) = .tuple #[.agg (numC ⟨⟨0, 0⟩, ⟨0, 0⟩⟩), .int .i64 q, .int .i64 p] := rfl
    rw [e1]
    have hne : (q == 0) = false := by simpa using hq
    clear hv hq e1 HVS
    go_upto_region 2 with fail
    have h3 := h2.below (fr_below w2 (.cells (numC ⟨⟨0, 0⟩, ⟨0, 0⟩⟩) 82))
    have hx3 := heap_alloc_new w2 (.cells (numC ⟨⟨0, 0⟩, ⟨0, 0⟩⟩) 82)
    generalize w2.alloc _ = W3 at *
    generalize w2.heap.size = bx at *
    obtain ⟨x0, x1, x2, x3⟩ := four_cells hx3
    obtain ⟨z0, z1, z2, z3⟩ := four_cells h3.hz
    obtain ⟨f0, f1, f2, f3⟩ := four_frozen h3.hz
    have H3 := hidMk h3
    clear h2 h3 hx3
    go_wp2_with fail
    refine bp_gen (fun W' => W'.heap[w.heap.size]? = some (.cells (numC ⟨⟨0, 0⟩, ⟨0, 0⟩⟩) 82 (0, 0)) ∧ Tb T r names W' ∧ Kp (· = r) w W') (H3.out.setz ⟨⟨0, 0⟩, ⟨0, 0⟩⟩) ?_
    rintro W ⟨hz, ht, hk⟩
    obtain ⟨z0, z1, z2, z3⟩ := four_cells hz
    rw [HV.out]
    exact bodyPost_ret (v := .tuple #[.agg (numC ⟨⟨0, 0⟩, ⟨0, 0⟩⟩), .int .i64 q, .int .i64 p]) (by simp [results, Tryz.results44, go_sem, z0, z1, z2, z3]) rfl ⟨rfl, ht, hk⟩
end Go.Proofs.YtodabmkcihafhaaGreatDoor

/- Near: the book's Near; the law Nears. -/
namespace Go.Proofs.YtodabmkcihafhaaGreatDoor
open Go.RowKit
set_option linter.unusedVariables false

structure NA (N : Nat) (aZ aB : Addr) (K P m T r : Nat) (names : List (Int × Num)) (w : World) (z : Array Value) (W : World) : Prop where
  bk : Bk N aZ aB K P m T r names W
  hz : W.heap[w.heap.size]? = some (.cells z 106 (0, 0))
  hr : r < w.heap.size
  hk : Kp (· = r) w W
section
variable {N : Nat} {aZ aB : Addr} {K P m T r : Nat} {names : List (Int × Num)} {w : World} {z : Array Value} {W W' : World}
theorem NA.below (h : NA N aZ aB K P m T r names w z W) (g : Below W.heap.size W W') : NA N aZ aB K P m T r names w z W' :=
  ⟨h.bk.below g, (g.block _ (Array.getElem?_eq_some_iff.1 h.hz).1).trans h.hz, h.hr, h.hk.below g⟩
theorem NA.kept (h : NA N aZ aB K P m T r names w z W) (g : Kp (· = r) W W') (ht : Tb T r names W') : NA N aZ aB K P m T r names w z W' :=
  ⟨h.bk.kept g ht, (g.block _ (Array.getElem?_eq_some_iff.1 h.hz).1 (by have := h.hr; omega)).trans h.hz, h.hr, h.hk.trans g⟩
theorem NA.set {a b : Value} (h : NA N aZ aB K P m T r names w #[a, b] W) (x y : Value) :
    ((W.setCell ⟨w.heap.size, 0, none⟩ x).setCell ⟨w.heap.size, 1, none⟩ y).heap[w.heap.size]? = some (.cells #[x, y] 106 (0, 0)) ∧ Tb T r names ((W.setCell ⟨w.heap.size, 0, none⟩ x).setCell ⟨w.heap.size, 1, none⟩ y) ∧ Kp (· = r) w ((W.setCell ⟨w.heap.size, 0, none⟩ x).setCell ⟨w.heap.size, 1, none⟩ y) := by
  have hr := h.hr
  refine ⟨two_set h.hz _ _, ?_, (h.hk.setCell (p := ⟨w.heap.size, 0, none⟩) (Or.inr (Nat.le_refl _)) _).setCell (p := ⟨w.heap.size, 1, none⟩) (Or.inr (Nat.le_refl _)) _⟩
  obtain ⟨es, clock, h1, h2⟩ := h.bk.pw.tb.hr
  have nT : T ≠ w.heap.size := fun e => by
    have := h.hz
    rw [← e, h.bk.pw.tb.ht] at this
    simp at this
  have nr : r ≠ w.heap.size := by omega
  refine ⟨?_, es, clock, ?_, h2⟩
  · rw [two_other nT]; exact h.bk.pw.tb.ht
  · rw [two_other nr]; exact h1
end
set_option maxHeartbeats 4000000 in
set_option maxRecDepth 100000 in
theorem bnear_any (N : Nat) (aZ aB : Addr) (K P m T r : Nat) (names : List (Int × Num)) (s : ByteArray) (n : Int) (w : World) (h : Bk N aZ aB K P m T r names w) :
    Calls Tryz.prog 47 #[.pointer (some ⟨K, 0, none⟩), .string s, .int .i64 n] w fun e w' => e = .returned (.tuple #[.agg #[.int .i64 (nrRe (valS names s) n), .int .i64 (nrIm (valS names s) n)], .int .i64 (ansE (tellA (valS names s) n)), .int .i64 (ansP (tellA (valS names s) n))]) ∧ Tb T r names w' ∧ Kp (· = r) w w' := by
  have hrl : r < w.heap.size := by obtain ⟨es, c, h1, _⟩ := h.pw.tb.hr; exact (Array.getElem?_eq_some_iff.1 h1).1
  have h0 : NA N aZ aB K P m T r names w #[.int .i64 0, .int .i64 0] (w.alloc (.cells #[.int .i64 0, .int .i64 0] 106)) :=
    ⟨h.below (fr_below w _), heap_alloc_new w _, hrl, (Kp.refl _ w).alloc _⟩
  have CT := hidMk (fun W hW => told_any N aZ aB K P m T r names s n W hW)
  have HX := hidMk (fun x (hv : valS names s = .ok x) => valS_num h.pw.nm hv)
  have HVS := hidMk (valS_cases names s h.pw.nm)
  clear h hrl
  have HT : Hid ((∃ x, tellA (valS names s) n = .ok x ∧ x.Ok ∧ 0 ≤ n ∧ n ≤ 20) ∨ ∃ q p, tellA (valS names s) n = .err q p ∧ q ≠ 0) := by
    rcases HVS.out with ⟨x, hv⟩ | ⟨q, p, hv, hq⟩
    · by_cases hr : n < 0 ∨ n > 20
      · exact Or.inr ⟨6, 0, by unfold tellA; rw [hv]; exact if_pos hr, by decide⟩
      · exact Or.inl ⟨x, by unfold tellA; rw [hv]; exact if_neg hr, HX.out x hv, by omega, by omega⟩
    · exact Or.inr ⟨q, p, by rw [hv]; rfl, hq⟩
  clear HX HVS
  go_enter Tryz.func47, Tryz.ntmps47
  go_upto_region 1 with fail
  generalize w.alloc _ = W at *
  have H0 := hidMk h0
  clear h0
  go_wp2_with fail
  refine (CT.out _ H0.out.bk).mono ?_
  rintro e w1 ⟨rfl, ht1, hk1⟩
  have h1 := H0.out.kept hk1 ht1
  clear H0 ht1 hk1 CT
  rcases HT.out with ⟨x, hv, hx, hn0, hn1⟩ | ⟨q, p, hv, hq⟩
  · obtain ⟨k, rfl⟩ : ∃ k : Nat, n = k := ⟨n.toNat, by omega⟩
    rw [hv]
    have e1 : ansV (.ok x) = .tuple #[.agg (numC x), .int .i64 0, .int .i64 0] := rfl
    rw [e1]
    have C1 := hidMk (fun W => nnear_any x k W hx (by omega))
    have HV : Hid (nrRe (valS names s) k = nrP x.re k ∧ nrIm (valS names s) k = nrP x.im k ∧ ansE (tellA (valS names s) k) = 0 ∧ ansP (tellA (valS names s) k) = 0) := by
      unfold nrRe nrIm
      rw [hv]
      exact ⟨rfl, rfl, rfl, rfl⟩
    clear hv hx e1 HT
    go_upto_region 2 with fail
    have h2 := h1.below (fr_below w1 (.cells (numC x) 82))
    have hx2 := heap_alloc_new w1 (.cells (numC x) 82)
    generalize w1.alloc _ = W2 at *
    generalize w1.heap.size = b9 at *
    obtain ⟨x0, x1, x2, x3⟩ := four_cells hx2
    have H2 := hidMk h2
    clear h1 h2 hx2
    go_wp2_with fail
    refine (C1.out _).mono ?_
    rintro e w3 ⟨rfl, hb3⟩
    have h3 := H2.out.below hb3
    obtain ⟨z0, z1, f0, f1⟩ := two_cells h3.hz
    have HAD : Hid (∃ A D, nrP x.re k = A ∧ nrP x.im k = D) := ⟨_, _, rfl, rfl⟩
    obtain ⟨A, D, hA, hD⟩ := HAD.out
    rw [hA, hD]
    have HA := hidMk (And.intro hA hD)
    have H3 := hidMk h3
    clear H2 hb3 C1 x0 x1 x2 x3 HAD hA hD h3
    go_wp2_with fail
    refine bp_gen (fun W' => W'.heap[w.heap.size]? = some (.cells #[.int .i64 A, .int .i64 D] 106 (0, 0)) ∧ Tb T r names W' ∧ Kp (· = r) w W') (H3.out.set _ _) ?_
    rintro W ⟨hz, ht, hk⟩
    obtain ⟨z0, z1, _, _⟩ := two_cells hz
    exact bodyPost_ret (v := .tuple #[.agg #[.int .i64 A, .int .i64 D], .int .i64 0, .int .i64 0]) (by simp [results, Tryz.results47, go_sem, z0, z1]) rfl ⟨by rw [HV.out.1, HV.out.2.1, HV.out.2.2.1, HV.out.2.2.2, HA.out.1, HA.out.2], ht, hk⟩
  · rw [hv]
    have e1 : ansV (.err q p) = .tuple #[.agg (numC ⟨⟨0, 0⟩, ⟨0, 0⟩⟩), .int .i64 q, .int .i64 p] := rfl
    rw [e1]
    have hne : (q != 0) = true := by simpa using hq
    have HV : Hid (nrRe (valS names s) n = 0 ∧ nrIm (valS names s) n = 0 ∧ ansE (tellA (valS names s) n) = q ∧ ansP (tellA (valS names s) n) = p) := by
      unfold nrRe nrIm
      rw [hv]
      exact ⟨rfl, rfl, rfl, rfl⟩
    clear hv hq e1 HT
    go_upto_region 2 with fail
    have h2 := h1.below (fr_below w1 (.cells (numC ⟨⟨0, 0⟩, ⟨0, 0⟩⟩) 82))
    generalize w1.alloc _ = W2 at *
    generalize w1.heap.size = b9 at *
    obtain ⟨z0, z1, f0, f1⟩ := two_cells h2.hz
    have H3 := hidMk h2
    clear h1 h2
    go_wp2_with fail
    refine bp_gen (fun W' => W'.heap[w.heap.size]? = some (.cells #[.int .i64 0, .int .i64 0] 106 (0, 0)) ∧ Tb T r names W' ∧ Kp (· = r) w W') (H3.out.set _ _) ?_
    rintro W ⟨hz, ht, hk⟩
    obtain ⟨z0, z1, _, _⟩ := two_cells hz
    exact bodyPost_ret (v := .tuple #[.agg #[.int .i64 0, .int .i64 0], .int .i64 q, .int .i64 p]) (by simp [results, Tryz.results47, go_sem, z0, z1]) rfl ⟨by rw [HV.out.1, HV.out.2.1, HV.out.2.2.1, HV.out.2.2.2], ht, hk⟩
end Go.Proofs.YtodabmkcihafhaaGreatDoor

/- Digits: the book's Digits. -/
namespace Go.Proofs.YtodabmkcihafhaaGreatDoor
open Go.RowKit
set_option linter.unusedVariables false
def dgP (a : Ans) (n : Int) : List (Int × Int) := match tellA a n with | .ok x => digP x n.toNat | .err _ _ => []
theorem dgP_re (a : Ans) (n : Int) : dgRe a n = (dgP a n).map (·.1) := by
  unfold dgRe dgP
  cases tellA a n with
  | ok x => simp [digL, digP, dR]
  | err q p => rfl
theorem dgP_im (a : Ans) (n : Int) : dgIm a n = (dgP a n).map (·.2) := by
  unfold dgIm dgP
  cases tellA a n with
  | ok x => simp [digL, digP, dI]
  | err q p => rfl
theorem Tb.below {T r : Nat} {names : List (Int × Num)} {w w' : World} (h : Tb T r names w) (g : Below w.heap.size w w') : Tb T r names w' := by
  obtain ⟨es, clock, h1, h2⟩ := h.hr
  exact ⟨(g.block _ (Array.getElem?_eq_some_iff.1 h.ht).1).trans h.ht, es, clock, (g.block _ (Array.getElem?_eq_some_iff.1 h1).1).trans h1, h2⟩
theorem digP_len (x : Num) (k : Nat) : (digP x k).length = k := by simp [digP]
set_option maxHeartbeats 4000000 in
set_option maxRecDepth 100000 in
theorem bdigits_any (N : Nat) (aZ aB : Addr) (K P m T r : Nat) (names : List (Int × Num)) (s : ByteArray) (n : Int) (w : World) (h : Bk N aZ aB K P m T r names w) :
    Calls Tryz.prog 25 #[.pointer (some ⟨K, 0, none⟩), .string s, .int .i64 n] w fun e w' => ∃ v, e = .returned (.tuple #[.int .i64 (dgU (valS names s) n), v, .int .i64 (ansE (tellA (valS names s) n)), .int .i64 (ansP (tellA (valS names s) n))]) ∧
      w'.ownsRow w.heap.size 54 2 v (dgP (valS names s) n).length (dpC (dgP (valS names s) n)) ∧ (∃ g len cap, v = .slice g len cap) ∧ Tb T r names w' ∧ Kp (· = r) w w' := by
  have CT := hidMk (told_any N aZ aB K P m T r names s n w h)
  have HX0 := hidMk (dg_vals (s := s) h.pw.nm n)
  clear h
  go_enter Tryz.func25, Tryz.ntmps25
  go_wp2_with fail
  refine CT.out.mono ?_
  rintro e w1 ⟨rfl, ht1, hk1⟩
  clear CT
  have HE : Hid ((∃ (x : Num) (k : Nat), n = k ∧ k ≤ 20 ∧ x.Ok ∧ tellA (valS names s) n = .ok x) ∨ ∃ q p, tellA (valS names s) n = .err q p ∧ q ≠ 0) := by
    rcases HX0.out with ⟨x, _, _, ht, hx, _, _, hn0, hn1, hv⟩ | ⟨x, hv, hx, hr, ht⟩ | ⟨q, p, hv, hq, ht⟩
    · exact Or.inl ⟨x, n.toNat, by omega, by omega, hx, ht⟩
    · exact Or.inr ⟨6, 0, ht, by decide⟩
    · exact Or.inr ⟨q, p, ht, hq⟩
  clear HX0
  rcases HE.out with ⟨x, k, rfl, hk, hx, ht⟩ | ⟨q, p, ht, hq⟩
  · have HV : Hid (dgU (valS names s) k = (unitP x : Nat) ∧ dgP (valS names s) k = digP x k ∧ ansE (tellA (valS names s) k) = 0 ∧ ansP (tellA (valS names s) k) = 0) := by
      unfold dgU dgP
      rw [ht]
      exact ⟨rfl, rfl, rfl, rfl⟩
    have CE := hidMk (fun W => exponent_any x W hx)
    have CF := hidMk (fun W => first_any x k W hx hk)
    have HL := hidMk (digP_len x k)
    rw [ht]
    have e1 : ansV (.ok x) = .tuple #[.agg (numC x), .int .i64 0, .int .i64 0] := rfl
    rw [e1]
    clear ht hx HE e1
    generalize unitP x = U at *
    generalize digP x k = DP at *
    go_upto_region 2 with fail
    have hx2 := heap_alloc_new w1 (.cells (numC x) 82)
    have ht2 := ht1.below (fr_below w1 (.cells (numC x) 82))
    have hk2 := hk1.below (fr_below w1 (.cells (numC x) 82))
    generalize w1.alloc _ = W2 at *
    generalize w1.heap.size = b9 at *
    have HX := hidMk hx2
    have HT := hidMk ht2
    have HK := hidMk hk2
    clear hx2 ht2 hk2 ht1 hk1
    go_upto_region 4 with fail
    refine region_inv (nt := 30) _
      (fun j v => match j with
        | 0 => v = .agg (numC x)
        | 1 => v = .int .i64 (U : Nat)
        | 2 => v = .agg (numC x)
        | 3 => v = .int .i64 (k : Nat)
        | 5 => v = .int .i64 (U : Nat)
        | 7 => v = .int .i64 0
        | 8 => v = .int .i64 0
        | _ => True)
      (fun b u w' => Hid (Nw W2 w' ∧ (b 4 = true → (∃ g, u 29 = .slice (some ⟨g, 0, none⟩) k k) ∧ w'.ownsRow W2.heap.size 54 2 (u 29) k (dpC DP)) ∧ (b 6 = true → b 4 = true) ∧ (b 6 = true → u 7 = u 29)))
      (act_of rfl rfl) (by kernel_rfl) (by kernel_rfl) (by kernel_rfl) ⟨(Nw.refl W2).drew, fun h => (by cases h), fun h => h, fun h => by cases h⟩ ?_ ?_
    · intro i o b u w' ho hbi hall hU hW K hK
      have hA : actOf 30 u = ⟨#[u 0, u 1, u 2, u 3, u 4, u 5, u 6, u 7, u 8, u 9, u 10, u 11, u 12, u 13, u 14, u 15, u 16, u 17, u 18, u 19, u 20, u 21, u 22, u 23, u 24, u 25, u 26, u 27, u 28, u 29], []⟩ := rfl
      rw [hA] at hK ⊢
      have c2 : u 2 = .int .i64 (k : Nat) := hU.oldB 2 (by kernel_rfl)
      have c10 : u 10 = .pointer (some ⟨b9, 0, none⟩) := hU.oldB 10 (by kernel_rfl)
      have got := hU.got
      have HW := hW
      have HKK := hidMk hK
      clear hU hA hK hW
      have hxx := (HW.out.1.b.block b9 (Array.getElem?_eq_some_iff.1 HX.out).1).trans HX.out
      obtain ⟨x0, x1, x2, x3⟩ := four_cells hxx
      rcases i with _ | _ | _ | _ | _ | _ | _ | _ | _ | i
      · cases ho
        go_simp
        exact HKK.out _ _ _ (by rw [c2, c10]; rfl) (fun _ => rfl) ⟨HW.out.1, HW.out.2.1, HW.out.2.2.1, HW.out.2.2.2⟩
      · cases ho
        have g25 : u 25 = .agg (numC x) := got 0 25 rfl (hall ⟨0, .data⟩ (by simp) rfl)
        go_simp
        refine (CE.out _).mono ?_
        rintro e w9 ⟨rfl, hb9⟩
        exact HKK.out _ _ _ (by rw [c2, c10, g25]; rfl) (fun _ => rfl) ⟨HW.out.1.below hb9, fun h => ⟨(HW.out.2.1 h).1, row_below (HW.out.2.1 h).2 hb9⟩, HW.out.2.2.1, HW.out.2.2.2⟩
      · cases ho
        go_simp
        exact HKK.out _ _ _ (by rw [c2, c10]; rfl) (fun _ => rfl) ⟨HW.out.1, HW.out.2.1, HW.out.2.2.1, HW.out.2.2.2⟩
      · cases ho
        go_simp
        exact HKK.out _ _ _ (by rw [c2, c10]; rfl) (fun _ => rfl) ⟨HW.out.1, HW.out.2.1, HW.out.2.2.1, HW.out.2.2.2⟩
      · cases ho
        have g27 : u 27 = .agg (numC x) := got 2 27 rfl (hall ⟨2, .data⟩ (by simp) rfl)
        have g28 : u 28 = .int .i64 (k : Nat) := got 3 28 rfl (hall ⟨3, .data⟩ (by simp) rfl)
        have nb : b 6 = false := by
          cases h : b 6 with
          | false => rfl
          | true => rw [HW.out.2.2.1 h] at hbi; cases hbi
        have NB := hidMk nb
        clear nb
        go_simp
        refine (CF.out _).mono ?_
        rintro e w9 ⟨rfl, hr9, hb9⟩
        exact HKK.out _ _ _ (by rw [c2, c10, g27, g28]; rfl) (fun _ => trivial) ⟨HW.out.1.below hb9, fun _ => ⟨⟨_, rfl⟩, row_mono hr9 HW.out.1.b.size⟩, fun _ => rfl, fun h => absurd (show b 6 = true from h) (by rw [NB.out]; decide)⟩
      · cases ho
        have g26 : u 26 = .int .i64 (U : Nat) := got 1 26 rfl (hall ⟨1, .data⟩ (by simp) rfl)
        go_simp
        exact HKK.out _ _ _ (by rw [c2, c10, g26]; rfl) (fun _ => rfl) ⟨HW.out.1, HW.out.2.1, HW.out.2.2.1, HW.out.2.2.2⟩
      · cases ho
        have Y4 : Hid (b 4 = true) := hall ⟨4, .data⟩ (by simp) rfl
        obtain ⟨g9, hg9⟩ := (HW.out.2.1 Y4.out).1
        go_simp
        exact HKK.out _ _ _ (by rw [c2, c10, hg9]; rfl) (fun _ => trivial) ⟨HW.out.1, HW.out.2.1, fun _ => Y4.out, fun _ => hg9.symm⟩
      · cases ho
        go_simp
        exact HKK.out _ _ _ (by rw [c2, c10]; rfl) (fun _ => rfl) ⟨HW.out.1, HW.out.2.1, HW.out.2.2.1, HW.out.2.2.2⟩
      · cases ho
        go_simp
        exact HKK.out _ _ _ (by rw [c2, c10]; rfl) (fun _ => rfl) ⟨HW.out.1, HW.out.2.1, HW.out.2.2.1, HW.out.2.2.2⟩
      · simp at ho
    · intro b u w' hall hU hW
      have e29 := (hW.out.2.1 (hall 4 (by decide))).1
      have hrow := (hW.out.2.1 (hall 4 (by decide))).2
      have e7 := hW.out.2.2.2 (hall 6 (by decide))
      have e6 : u 6 = .int .i64 (U : Nat) := hU.got 5 6 rfl (hall 5 (by decide))
      have e8 : u 8 = .int .i64 0 := hU.got 7 8 rfl (hall 7 (by decide))
      have e9 : u 9 = .int .i64 0 := hU.got 8 9 rfl (hall 8 (by decide))
      obtain ⟨g, hg⟩ := e29
      rw [hg] at e7 hrow
      have HB := hidMk hW.out.1.b
      have HROW := hidMk hrow
      have hA : actOf 30 u = ⟨#[u 0, u 1, u 2, u 3, u 4, u 5, u 6, u 7, u 8, u 9, u 10, u 11, u 12, u 13, u 14, u 15, u 16, u 17, u 18, u 19, u 20, u 21, u 22, u 23, u 24, u 25, u 26, u 27, u 28, u 29], []⟩ := rfl
      have e0 : u 0 = .pointer (some ⟨K, 0, none⟩) := hU.oldB 0 (by kernel_rfl)
      have e1 : u 1 = .string s := hU.oldB 1 (by kernel_rfl)
      have e2 : u 2 = .int .i64 (k : Nat) := hU.oldB 2 (by kernel_rfl)
      have e3 : u 3 = undef := hU.oldB 3 (by kernel_rfl)
      have e4 : u 4 = undef := hU.oldB 4 (by kernel_rfl)
      have e5 : u 5 = undef := hU.oldB 5 (by kernel_rfl)
      have e10 : u 10 = .pointer (some ⟨b9, 0, none⟩) := hU.oldB 10 (by kernel_rfl)
      have e11 : u 11 = .int .i64 0 := hU.oldB 11 (by kernel_rfl)
      have e12 : u 12 = .int .i64 0 := hU.oldB 12 (by kernel_rfl)
      have e13 : u 13 = .tuple #[.agg (numC x), .int .i64 0, .int .i64 0] := hU.oldB 13 (by kernel_rfl)
      have e14 : u 14 = .pointer (some ⟨K, 0, none⟩) := hU.oldB 14 (by kernel_rfl)
      have e15 : u 15 = .string s := hU.oldB 15 (by kernel_rfl)
      have e16 : u 16 = .int .i64 (k : Nat) := hU.oldB 16 (by kernel_rfl)
      have e17 : u 17 = .tuple #[.agg (numC x), .int .i64 0, .int .i64 0] := hU.oldB 17 (by kernel_rfl)
      have e18 : u 18 = .agg (numC x) := hU.oldB 18 (by kernel_rfl)
      have e19 : u 19 = .int .i64 0 := hU.oldB 19 (by kernel_rfl)
      have e20 : u 20 = .int .i64 0 := hU.oldB 20 (by kernel_rfl)
      have e21 : u 21 = .int .i64 0 := hU.oldB 21 (by kernel_rfl)
      have e22 : u 22 = .bool false := hU.oldB 22 (by kernel_rfl)
      have e23 : u 23 = undef := hU.oldB 23 (by kernel_rfl)
      have e24 : u 24 = undef := hU.oldB 24 (by kernel_rfl)
      rw [hA, e0, e1, e2, e3, e4, e5, e10, e11, e12, e13, e14, e15, e16, e17, e18, e19, e20, e21, e22, e23, e24]
      clear hA e0 e1 e2 e3 e4 e5 e10 e11 e12 e13 e14 e15 e16 e17 e18 e19 e20 e21 e22 e23 e24
      rw [e6, e7, e8, e9]
      clear hU hW hall e6 e7 e8 e9 hrow hg
      go_wp2_with fail
      exact bodyPost_ret (v := .tuple #[.int .i64 (U : Nat), .slice (some ⟨g, 0, none⟩) k k, .int .i64 0, .int .i64 0]) (by simp [results, Tryz.results25, go_sem]) rfl
        ⟨_, by rw [HV.out.1, HV.out.2.2.1, HV.out.2.2.2], by rw [HV.out.2.1, HL.out]; exact row_mono HROW.out HK.out.size, ⟨_, _, _, rfl⟩, HT.out.below HB.out, HK.out.below HB.out⟩
  · have HV : Hid (dgU (valS names s) n = 0 ∧ dgP (valS names s) n = [] ∧ ansE (tellA (valS names s) n) = q ∧ ansP (tellA (valS names s) n) = p) := by
      unfold dgU dgP
      rw [ht]
      exact ⟨rfl, rfl, rfl, rfl⟩
    rw [ht]
    have e1 : ansV (.err q p) = .tuple #[.agg (numC ⟨⟨0, 0⟩, ⟨0, 0⟩⟩), .int .i64 q, .int .i64 p] := rfl
    rw [e1]
    have hne : (q != 0) = true := by simpa using hq
    clear ht hq HE e1
    go_upto_region 2 with fail
    have ht2 := ht1.below (fr_below w1 (.cells (numC ⟨⟨0, 0⟩, ⟨0, 0⟩⟩) 82))
    have hk2 := hk1.below (fr_below w1 (.cells (numC ⟨⟨0, 0⟩, ⟨0, 0⟩⟩) 82))
    generalize w1.alloc _ = W2 at *
    go_wp2_with fail
    exact bodyPost_ret (v := .tuple #[.int .i64 0, .slice none 0 0, .int .i64 q, .int .i64 p]) (by simp [results, Tryz.results25, go_sem]) rfl ⟨_, by rw [HV.out.1, HV.out.2.2.1, HV.out.2.2.2], by rw [HV.out.2.1]; exact World.ownsRow_nil _ _ _ _, ⟨_, _, _, rfl⟩, ht2, hk2⟩
end Go.Proofs.YtodabmkcihafhaaGreatDoor

/- The law's digits: what is wanted, the unit. -/
namespace Go.Proofs.YtodabmkcihafhaaGreatDoor
open Go.RowKit
set_option linter.unusedVariables false
theorem row_kept {w w' : World} {base r : Nat} {e : TypeId} {sz : Nat} {v : Value} {n : Nat} {xs : List Value} (h : w.ownsRow base e sz v n xs) (g : Kp (· = r) w w') (hr : r < base) : w'.ownsRow base e sz v n xs := by
  obtain ⟨h1, h2⟩ := h
  refine ⟨h1, ?_⟩
  rcases h2 with h2 | ⟨b, cap, cur, e1, e2, e3, e4, e5, e6, e7⟩
  · exact Or.inl h2
  · exact Or.inr ⟨b, cap, cur, e1, e2, (g.block _ (Array.getElem?_eq_some_iff.1 e3).1 (by omega)).trans e3, e4, e5, e6, e7⟩
theorem row_len {w : World} {base : Nat} {e : TypeId} {sz : Nat} {v : Value} {n : Nat} {xs : List Value} (h : w.ownsRow base e sz v n xs) : ∃ o c, v = .slice o n c := by
  rcases h.2 with ⟨rfl, rfl⟩ | ⟨b, cap, cur, rfl, _⟩
  · exact ⟨_, _, rfl⟩
  · exact ⟨_, _, rfl⟩
/-- A row of ints: its elements, where there are any. -/
theorem row_int {w : World} {base : Nat} {o : Option Addr} {n c : Nat} {l : List Int} {i : Nat} {a : Int} (h : w.ownsRow base 3 1 (.slice o n c) n (iC l)) (hi : l[i]? = some a) (hn : i < n) :
    ∃ g, o = some ⟨g, 0, none⟩ ∧ base ≤ g ∧ w.cell? ⟨g, i, none⟩ = some (.int .i64 a) := by
  rcases h.2 with ⟨h1, rfl⟩ | ⟨b, cap, cur, e1, e2, e3, e4, e5, e6, e7⟩
  · omega
  · simp only [Value.slice.injEq] at e1
    refine ⟨b, e1.1, e2, ?_⟩
    have h2 : cur[i]? = some (.int .i64 a) := by
      rw [← Array.getElem?_toList, ← List.getElem?_take_of_lt (show i < n * 1 by omega), e7]
      simp [iC, hi]
    unfold World.cell?
    rw [e3]
    exact h2
/-- A row of digits: it lies in one block, and holds them. -/
structure LDg (l : List (Int × Int)) (cap g i : Nat) (W : World) : Prop where
  ex : ∃ cur : Array Value, W.heap[g]? = some (.cells cur 54 (0, 0)) ∧ l.length ≤ cap ∧ cur.size = cap * 2 ∧ ∀ j p, i ≤ j → l[j]? = some p → cur[j * 2]? = some (.int .i64 p.1) ∧ cur[j * 2 + 1]? = some (.int .i64 p.2)
theorem dpC_get (l : List (Int × Int)) : ∀ (j : Nat) (p : Int × Int), l[j]? = some p → (dpC l)[j * 2]? = some (.int .i64 p.1) ∧ (dpC l)[j * 2 + 1]? = some (.int .i64 p.2) := by
  induction l with
  | nil => intro j p h; simp at h
  | cons q l ih =>
    intro j p h
    cases j with
    | zero =>
      simp at h
      subst h
      exact ⟨rfl, rfl⟩
    | succ j =>
      simp at h
      have := ih j p h
      rw [show (j + 1) * 2 = j * 2 + 2 by omega]
      exact this
theorem row_digits {w : World} {base : Nat} {v : Value} {l : List (Int × Int)} (h : w.ownsRow base 54 2 v l.length (dpC l)) :
    ∃ o c, v = .slice o l.length c ∧ (l = [] ∨ ∃ g, o = some ⟨g, 0, none⟩ ∧ base ≤ g ∧ LDg l c g 0 w) := by
  rcases h.2 with ⟨h1, h2⟩ | ⟨b, cap, cur, e1, e2, e3, e4, e5, e6, e7⟩
  · have : l = [] := List.length_eq_zero_iff.1 h2
    subst this
    exact ⟨_, _, h1, Or.inl rfl⟩
  · refine ⟨_, _, e1, Or.inr ⟨b, rfl, e2, cur, e3, e4, e6, fun j p _ hp => ?_⟩⟩
    have hj := (List.getElem?_eq_some_iff.1 hp).1
    obtain ⟨q1, q2⟩ := dpC_get l j p hp
    rw [← e7, List.getElem?_take_of_lt (by omega), Array.getElem?_toList] at q1 q2
    exact ⟨q1, q2⟩
theorem LDg.kept {l : List (Int × Int)} {cap g i r : Nat} {W W' : World} (h : LDg l cap g i W) (k : Kp (· = r) W W') (hr : r < g) : LDg l cap g i W' := by
  obtain ⟨cur, h1, h2⟩ := h.ex
  exact ⟨cur, (k.block _ (Array.getElem?_eq_some_iff.1 h1).1 (by omega)).trans h1, h2⟩
theorem LDg.cells {l : List (Int × Int)} {cap g i : Nat} {W : World} (h : LDg l cap g i W) {p : Int × Int} (hp : l[i]? = some p) :
    W.cell? ⟨g, i * 2, none⟩ = some (.int .i64 p.1) ∧ W.cell? ⟨g, i * 2 + 1, none⟩ = some (.int .i64 p.2) ∧ W.frozen? ⟨g, i * 2, none⟩ = false ∧ W.frozen? ⟨g, i * 2 + 1, none⟩ = false := by
  obtain ⟨cur, h1, _, _, h2⟩ := h.ex
  obtain ⟨q1, q2⟩ := h2 i p (Nat.le_refl _) hp
  unfold World.cell? World.frozen?
  rw [h1]
  exact ⟨q1, q2, by simp, by simp⟩
theorem LDg.set {l : List (Int × Int)} {cap g i : Nat} {W : World} (h : LDg l cap g i W) (a b : Value) : LDg l cap g (i + 1) ((W.setCell ⟨g, i * 2, none⟩ a).setCell ⟨g, i * 2 + 1, none⟩ b) := by
  obtain ⟨cur, h1, h2, h3, h4⟩ := h.ex
  have e : ((W.setCell ⟨g, i * 2, none⟩ a).setCell ⟨g, i * 2 + 1, none⟩ b).heap[g]? = some (.cells ((cur.setIfInBounds (i * 2) a).setIfInBounds (i * 2 + 1) b) 54 (0, 0)) := by
    simp [World.setCell, Array.getElem?_modify, h1]
  refine ⟨_, e, h2, by simpa using h3, fun j p hj hp => ?_⟩
  obtain ⟨q1, q2⟩ := h4 j p (by omega) hp
  rw [Array.getElem?_setIfInBounds_ne (by omega), Array.getElem?_setIfInBounds_ne (by omega), Array.getElem?_setIfInBounds_ne (by omega), Array.getElem?_setIfInBounds_ne (by omega)]
  exact ⟨q1, q2⟩

set_option maxHeartbeats 2000000 in
theorem wanted_any (K B : Nat) (names : List (Int × Num)) (s : ByteArray) (n : Int) (w : World) (hl : names.length ≤ 1000) (hok : ∀ p ∈ names, p.2.Ok) (h : NmRow B names w) :
    Calls Tryz.prog 42 #[prV K B, .string s, .int .i64 n] w fun e w' => ∃ v1 v2, e = .returned (.tuple #[v1, v2, .int .i64 (ansE (tellA (valS names s) n)), .int .i64 (ansP (tellA (valS names s) n))]) ∧
      w'.ownsRow w.heap.size 3 1 v1 (dgP (valS names s) n).length (iC ((dgP (valS names s) n).map (·.1))) ∧ w'.ownsRow w.heap.size 3 1 v2 (dgP (valS names s) n).length (iC ((dgP (valS names s) n).map (·.2))) ∧ Below w.heap.size w w' := by
  have CN := hidMk (fun W hW => rbdigits_any B names s n W hl hok hW)
  have hx0 := heap_alloc_new w (.cells #[.pointer (some ⟨K, 0, none⟩), .pointer (some ⟨B, 0, none⟩)] 34)
  have hb0 := fr_below w (.cells #[.pointer (some ⟨K, 0, none⟩), .pointer (some ⟨B, 0, none⟩)] 34)
  have hn0 := hidMk (h.below hb0)
  rw [dgP_re, dgP_im] at CN
  simp only [List.length_map] at CN
  generalize dgP (valS names s) n = DP at *
  generalize ansE (tellA (valS names s) n) = E at *
  generalize ansP (tellA (valS names s) n) = Q at *
  clear hl hok h
  go_enter Tryz.func42, Tryz.ntmps42
  go_upto_region 1 with fail
  generalize w.alloc _ = W at *
  obtain ⟨c0, c1, _, _⟩ := two_cells hx0
  have HB := hidMk hb0
  clear hx0 hb0
  go_wp2_with fail
  refine (CN.out _ hn0.out).mono ?_
  rintro e w1 ⟨v1, v2, rfl, hr1, hr2, hb1⟩
  have HR1 := hidMk (row_mono hr1 HB.out.size)
  have HR2 := hidMk (row_mono hr2 HB.out.size)
  have HB1 := hidMk (HB.out.trans (hb1.mono HB.out.size))
  clear hr1 hr2 hb1 c0 c1
  go_wp2_with fail
  exact bodyPost_ret (v := .tuple #[v1, v2, .int .i64 E, .int .i64 Q]) (by simp [results, Tryz.results42, go_sem]) rfl ⟨v1, v2, rfl, HR1.out, HR2.out, HB1.out⟩
set_option maxHeartbeats 2000000 in
theorem lunit_any (K B : Nat) (names : List (Int × Num)) (s : ByteArray) (n : Int) (w : World) (hl : names.length ≤ 1000) (hok : ∀ p ∈ names, p.2.Ok) (h : NmRow B names w) :
    Calls Tryz.prog 43 #[prV K B, .string s, .int .i64 n] w fun e w' => e = .returned (.int .i64 (dgU (valS names s) n)) ∧ Below w.heap.size w w' := by
  have CN := hidMk (fun W hW => rbdigits_any B names s n W hl hok hW)
  have hx0 := heap_alloc_new w (.cells #[.pointer (some ⟨K, 0, none⟩), .pointer (some ⟨B, 0, none⟩)] 34)
  have hb0 := fr_below w (.cells #[.pointer (some ⟨K, 0, none⟩), .pointer (some ⟨B, 0, none⟩)] 34)
  have hn0 := hidMk (h.below hb0)
  generalize ansE (tellA (valS names s) n) = E at *
  generalize ansP (tellA (valS names s) n) = Q at *
  generalize dgU (valS names s) n = U at *
  clear hl hok h
  go_enter Tryz.func43, Tryz.ntmps43
  go_upto_region 1 with fail
  generalize w.alloc _ = W at *
  obtain ⟨c0, c1, _, _⟩ := two_cells hx0
  have HB := hidMk hb0
  clear hx0 hb0
  go_wp2_with fail
  refine (CN.out _ hn0.out).mono ?_
  rintro e w1 ⟨v1, v2, rfl, hr1, hr2, hb1⟩
  have HB1 := hidMk (HB.out.trans (hb1.mono HB.out.size))
  clear hr1 hr2 hb1 c0 c1
  go_wp2_with fail
  go_ret
  exact ⟨rfl, HB1.out⟩
end Go.Proofs.YtodabmkcihafhaaGreatDoor

/- The law's digits. -/
namespace Go.Proofs.YtodabmkcihafhaaGreatDoor
open Go.RowKit
set_option linter.unusedVariables false
/-- The outer loop's world. -/
structure DW (N : Nat) (aZ aB : Addr) (K P m T r B : Nat) (names : List (Int × Num)) (w : World) (v1 v2 : Value) (DP : List (Int × Int)) (W : World) : Prop where
  lv : LV N aZ aB K P m T r B names w W
  r1 : W.ownsRow w.heap.size 3 1 v1 DP.length (iC (DP.map (·.1)))
  r2 : W.ownsRow w.heap.size 3 1 v2 DP.length (iC (DP.map (·.2)))
section
variable {N : Nat} {aZ aB : Addr} {K P m T r B : Nat} {names : List (Int × Num)} {w W W' : World} {v1 v2 : Value} {DP : List (Int × Int)}
theorem DW.below (h : DW N aZ aB K P m T r B names w v1 v2 DP W) (g : Below W.heap.size W W') : DW N aZ aB K P m T r B names w v1 v2 DP W' := ⟨h.lv.below g, row_below h.r1 g, row_below h.r2 g⟩
theorem DW.kept (h : DW N aZ aB K P m T r B names w v1 v2 DP W) (g : Kp (· = r) W W') (ht : Tb T r names W') : DW N aZ aB K P m T r B names w v1 v2 DP W' :=
  ⟨h.lv.kept g ht, row_kept h.r1 g h.lv.hr, row_kept h.r2 g h.lv.hr⟩
/-- A store into a block that is new. -/
theorem tb_new2 {X : Nat} {Wo : World} (h : Tb T r names W) (hk : Kp (· = r) Wo W) (hT : T < Wo.heap.size) (hr : r < Wo.heap.size) (hX : Wo.heap.size ≤ X) (i j : Nat) (a b : Value) :
    Tb T r names ((W.setCell ⟨X, i, none⟩ a).setCell ⟨X, j, none⟩ b) ∧ Kp (· = r) Wo ((W.setCell ⟨X, i, none⟩ a).setCell ⟨X, j, none⟩ b) := by
  obtain ⟨es, clock, h1, h2⟩ := h.hr
  refine ⟨⟨?_, es, clock, ?_, h2⟩, (hk.setCell (p := ⟨X, i, none⟩) (Or.inr hX) _).setCell (p := ⟨X, j, none⟩) (Or.inr hX) _⟩
  · rw [Below.heap_setCell _ _ _ _ (by simp; omega), Below.heap_setCell _ _ _ _ (by simp; omega)]; exact h.ht
  · rw [Below.heap_setCell _ _ _ _ (by simp; omega), Below.heap_setCell _ _ _ _ (by simp; omega)]; exact h1
end
theorem dgP_le (a : Ans) (n : Int) : (dgP a n).length ≤ 20 := by
  unfold dgP tellA
  cases a with
  | err q p => simp
  | ok x =>
    by_cases h : n < 0 ∨ n > 20
    · simp [h]
    · simp only [if_neg h, digP_len]
      omega
set_option maxHeartbeats 8000000 in
set_option maxRecDepth 100000 in
theorem ldigits_any (N : Nat) (aZ aB : Addr) (K P m T r B : Nat) (names : List (Int × Num)) (s : ByteArray) (n : Int) (w : World) (h : Pr N aZ aB K P m T r B names w) :
    Calls Tryz.prog 24 #[prV K B, .string s, .int .i64 n] w fun e w' => e = .returned (.bool true) ∧ Tb T r names w' ∧ Kp (· = r) w w' := by
  have h0 := LV.new h
  have CW := hidMk (fun W hW => wanted_any K B names s n W h.nl h.bk.pw.nm hW)
  have CU := hidMk (fun W hW => lunit_any K B names s n W h.nl h.bk.pw.nm hW)
  have CD := hidMk (fun W hW => bdigits_any N aZ aB K P m T r names s n W hW)
  have C0 := hidMk (fun W hW => bdigits_any N aZ aB K P m T r names ⟨#[48]⟩ n W hW)
  have C1 := hidMk (fun W hW => bdigits_any N aZ aB K P m T r names ⟨#[226, 136, 146, 49]⟩ n W hW)
  have C15 := hidMk (fun e W => num_any e W)
  have hD20 := dgP_le (valS names s) n
  clear h
  generalize dgP (valS names s) n = DP at *
  generalize ansE (tellA (valS names s) n) = E at *
  generalize ansP (tellA (valS names s) n) = Q at *
  generalize dgU (valS names s) n = U at *
  go_enter Tryz.func24, Tryz.ntmps24
  go_upto_region 1 with fail
  generalize w.alloc _ = W at *
  obtain ⟨c0, c1, _, _⟩ := two_cells h0.hx
  have H0 := hidMk h0
  clear h0
  go_wp2_with fail
  refine (CW.out _ H0.out.pr.nr).mono ?_
  rintro e w1 ⟨v1, v2, rfl, hr1, hr2, hb1⟩
  have HD : Hid (DW N aZ aB K P m T r B names w v1 v2 DP w1) := ⟨H0.out.below hb1, row_mono hr1 H0.out.hk.size, row_mono hr2 H0.out.hk.size⟩
  clear H0 hr1 hr2 hb1 c0 c1 CW
  obtain ⟨o1, cc1, hv1⟩ := row_len HD.out.r1
  obtain ⟨o2, cc2, hv2⟩ := row_len HD.out.r2
  subst hv1 hv2
  go_wp2_with fail
  go_loopg [11] 2 (fun g s11 wr => ∃ t : Nat, s11 = .int .i64 t ∧ t ≤ 2 ∧ Hid (t + g = 2) ∧ Hid (DW N aZ aB K P m T r B names w (.slice o1 DP.length cc1) (.slice o2 DP.length cc2) DP wr))
  case atStart => exact ⟨0, rfl, by omega, rfl, HD.out⟩
  case round =>
    clear HD
    rename World => Wo
    rename Nat => gO
    obtain ⟨t, rfl, ht2, hg, HW⟩ := hrel
    by_cases htt : t < 2
    · have q0 : (t : Int) < 2 := by omega
      obtain ⟨c0, c1, _, _⟩ := two_cells HW.out.lv.hx
      go_wp2_with fail
      refine (CD.out _ HW.out.lv.pr.bk).mono ?_
      rintro e w2 ⟨v, rfl, hrow, hsl, ht, hk⟩
      have H2 := hidMk (HW.out.kept hk ht)
      have HKO := hidMk hk
      have HRO := hidMk hrow
      clear hk ht hrow c0 c1
      obtain ⟨gg, ll, cp, rfl⟩ := hsl
      obtain ⟨c0, c1, _, _⟩ := two_cells H2.out.lv.hx
      go_wp2_with fail
      refine (C0.out _ H2.out.lv.pr.bk).mono ?_
      rintro e w3 ⟨v', rfl, hrow', hsl', ht', hk'⟩
      have H3 := hidMk (H2.out.kept hk' ht')
      have HK3 := hidMk (HKO.out.trans hk')
      have HR3 := hidMk (row_kept HRO.out hk' (Nat.lt_of_lt_of_le HW.out.lv.hr HW.out.lv.hk.size))
      clear hk' ht' hrow' c0 c1 H2 HKO HRO
      obtain ⟨gg', ll', cp', rfl⟩ := hsl'
      obtain ⟨c0, c1, _, _⟩ := two_cells H3.out.lv.hx
      go_wp2_with fail
      refine (C1.out _ H3.out.lv.pr.bk).mono ?_
      rintro e w4 ⟨v', rfl, hrow', hsl', ht', hk'⟩
      have H4 := hidMk (H3.out.kept hk' ht')
      have HK4 := hidMk (HK3.out.trans hk')
      have HR4 := hidMk (row_kept HR3.out hk' (Nat.lt_of_lt_of_le HW.out.lv.hr HW.out.lv.hk.size))
      clear hk' ht' hrow' c0 c1 H3 HK3 HR3
      obtain ⟨gg', ll', cp', rfl⟩ := hsl'
      obtain ⟨o, cap, hoc, hor⟩ := row_digits HR4.out
      simp only [Value.slice.injEq] at hoc
      obtain ⟨rfl, rfl, rfl⟩ := hoc
      have HOR := hidMk hor
      clear hor
      obtain ⟨c0, c1, _, _⟩ := two_cells H4.out.lv.hx
      have cu := CU.out w4 H4.out.lv.pr.nr
      go_wp2_with (first | (go_at_call 15; refine (C15.out _ _).mono ?_; rintro e w5 ⟨rfl, rfl⟩) | (go_at_call 43; refine cu.mono ?_; clear cu; rintro e w5 ⟨rfl, hb5⟩))
      have HI5 : Hid (Kp (· = r) Wo w5 ∧ Tb T r names w5 ∧ (DP = [] ∨ ∃ g, gg = some ⟨g, 0, none⟩ ∧ Wo.heap.size ≤ g ∧ LDg DP cp g 0 w5)) := by
        refine ⟨HK4.out.below hb5, H4.out.lv.pr.bk.pw.tb.of_below hb5, ?_⟩
        rcases HOR.out with h | ⟨g, h1, h2, h3⟩
        · exact Or.inl h
        · exact Or.inr ⟨g, h1, h2, h3.kept (r := r) (Kp.of_below hb5) (Nat.lt_of_lt_of_le (Nat.lt_of_lt_of_le HW.out.lv.hr HW.out.lv.hk.size) h2)⟩
      clear HOR HR4 HK4 H4 hb5 c0 c1
      go_loopg [16] DP.length (fun gi s16 wi => ∃ i : Nat, s16 = .int .i64 i ∧ i ≤ DP.length ∧ Hid (DP.length - i = gi) ∧ Hid (Kp (· = r) Wo wi ∧ Tb T r names wi ∧ (DP = [] ∨ ∃ g, gg = some ⟨g, 0, none⟩ ∧ Wo.heap.size ≤ g ∧ LDg DP cp g i wi)))
      case atStart => exact ⟨0, rfl, Nat.zero_le _, rfl, HI5.out⟩
      case round =>
        clear HI5
        obtain ⟨i, rfl, hi, hgi, HW6⟩ := hrel
        have HSZ := hidMk (Nat.lt_of_lt_of_le HW.out.lv.hr HW.out.lv.hk.size)
        have HD6 := hidMk (HW.out.kept HW6.out.1 HW6.out.2.1)
        by_cases hil : i < DP.length
        · have q1 : (i : Int) < (DP.length : Int) := by omega
          obtain ⟨p, hp⟩ : ∃ p, DP[i]? = some p := ⟨DP[i], List.getElem?_eq_getElem hil⟩
          obtain ⟨g1, hg1, hb1, k1⟩ := row_int (i := i) (a := p.1) HD6.out.r1 (by simp [hp]) hil
          obtain ⟨g2, hg2, hb2, k2⟩ := row_int (i := i) (a := p.2) HD6.out.r2 (by simp [hp]) hil
          obtain ⟨g3, hg3, hb3, hl3⟩ := HW6.out.2.2.resolve_left (fun e => by subst e; simp at hil)
          obtain ⟨k3, k4, f3, f4⟩ := hl3.cells hp
          have HL3 := hidMk hl3
          subst hg1 hg2 hg3
          obtain ⟨pa, pb⟩ := p
          simp only at k1 k2 k3 k4
          have HTT := hidMk (Array.getElem?_eq_some_iff.1 HW.out.lv.pr.bk.pw.tb.ht).1
          clear hp hl3 HD6
          go_wp2_with fail
          go_quiet (fail)
          go_wp2_with fail
          go_roundg (DP.length - (i + 1))
          case measure => have := hgi.out; omega
          case rel =>
            have hdr : Below wr.heap.size wr (wr.drewN nq) := below_drewN (Below.refl _ _) nq
            have h6 := tb_new2 (HW6.out.2.1.of_below hdr) (HW6.out.1.below hdr) HTT.out HSZ.out hb3 (i * 2) (i * 2 + 1) (.int .i64 5) (.int .i64 5)
            have h7 : LDg DP cp g3 i (wr.drewN nq) := ⟨HL3.out.ex⟩
            exact ⟨i + 1, rfl, by omega, rfl, h6.2, h6.1, Or.inr ⟨g3, rfl, hb3, h7.set _ _⟩⟩
        · have hie : i = DP.length := by omega
          subst hie
          go_wp2_with fail
          go_roundg (1 - t)
          case measure => have := hg.out; omega
          case rel => exact ⟨t + 1, rfl, by omega, by have := hg.out; show _ = _; omega, HD6.out⟩
    · have htt2 : t = 2 := by omega
      subst htt2
      go_wp2_with fail
      go_ret
      exact ⟨rfl, HW.out.lv.pr.bk.pw.tb, HW.out.lv.hk⟩
end Go.Proofs.YtodabmkcihafhaaGreatDoor

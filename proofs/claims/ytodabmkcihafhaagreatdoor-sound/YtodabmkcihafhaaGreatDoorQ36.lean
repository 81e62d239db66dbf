import Derived.Laws.StructEq
import Derived.Maps.AppendAt
import Derived.Test.YtodabmkcihafhaaGreatDoorQ34
import Derived.Test.YtodabmkcihafhaaGreatDoorQ26
import Derived.Test.YtodabmkcihafhaaGreatDoorQ24
import Derived.Test.YtodabmkcihafhaaGreatDoorQ20

/- Sound: the sum of the digits; part. -/
namespace Go.Proofs.YtodabmkcihafhaaGreatDoor
open Go.RowKit
set_option linter.unusedVariables false
def sumB (l : List Int) : Int := l.foldl (fun s c => 2 * s + c) 0
theorem sumB_snoc (l : List Int) (c : Int) : sumB (l ++ [c]) = 2 * sumB l + c := by simp [sumB]
theorem lf_sum (f : Fr) (e : Nat) : ∀ k, lf f.n (unD f e) k = f.n * 2 ^ k - sumB (digL f e k) * unD f e
  | 0 => by simp [lf, digL, sumB]
  | k + 1 => by
    rw [digL_succ, sumB_snoc]
    show nx (lf f.n (unD f e) k) (unD f e) = _
    unfold nx
    generalize dg (lf f.n (unD f e) k) (unD f e) = c
    rw [lf_sum f e k]
    generalize unD f e = d
    generalize sumB (digL f e k) = s
    rw [Int.pow_succ]
    generalize (2 : Int) ^ k = p
    grind
def Dgs (l : List Int) : Prop := ∀ a ∈ l, a = 1 ∨ a = -1 ∨ a = 0
theorem digL_dgs (f : Fr) (e k : Nat) : Dgs (digL f e k) := by
  intro a ha
  unfold digL at ha
  simp at ha
  obtain ⟨j, _, rfl⟩ := ha
  exact dg_in _ _
theorem sumB_le {l : List Int} (h : Dgs l) : ∀ i, i ≤ l.length → -(2 ^ i : Int) < sumB (l.take i) ∧ sumB (l.take i) < 2 ^ i
  | 0, _ => by simp [sumB]
  | i + 1, hi => by
    have ih := sumB_le h i (by omega)
    have hlt : i < l.length := by omega
    rw [List.take_succ_eq_append_getElem hlt, sumB_snoc, Int.pow_succ]
    have hm := h l[i] (List.getElem_mem _)
    generalize sumB (l.take i) = s at *
    generalize (2 : Int) ^ i = p at *
    omega
theorem take_step {l : List Int} {i : Nat} {a : Int} (h : l[i]? = some a) : sumB (l.take (i + 1)) = 2 * sumB (l.take i) + a := by
  obtain ⟨hlt, rfl⟩ := List.getElem?_eq_some_iff.1 h
  rw [List.take_succ_eq_append_getElem hlt, sumB_snoc]
def partB (p q : Int) (e : Nat) (l : List Int) : Bool := decide (p * 2 ^ l.length - sumB l * (q * 2 ^ e) ≤ q * 2 ^ e) && decide (p * 2 ^ l.length - sumB l * (q * 2 ^ e) ≥ -(q * 2 ^ e))
set_option maxHeartbeats 4000000 in
set_option maxRecDepth 100000 in
theorem part_any (p q : Int) (e base : Nat) (l : List Int) (v : Value) (w : World) (row : w.ownsRow base 3 1 v l.length (iC l)) (hl : l.length ≤ 20) (hd : Dgs l) (he : e ≤ 20) (hp : -999999 ≤ p ∧ p ≤ 999999) (hq : 0 < q ∧ q ≤ 999999) :
    Calls Tryz.prog 26 #[.int .i64 p, .int .i64 q, .int .i64 e, v] w fun r w' => r = .returned (.bool (partB p q e l)) ∧ Below w.heap.size w w' := by
  obtain ⟨o, c, rfl⟩ := row_len row
  obtain ⟨p1, p2⟩ := pow20 e he
  obtain ⟨s1, s2⟩ := pow20 l.length hl
  have hle := sumB_le hd
  have H20 : Hid (∀ i, i ≤ l.length → (2 : Int) ^ i ≤ 1048576) := fun i hi => (pow20 i (by omega)).2
  have HT : Hid (sumB (l.take 0) = 0 ∧ sumB (l.take l.length) = sumB l) := ⟨rfl, by rw [List.take_length]⟩
  have HP : Hid (partB p q e l = (decide (p * 2 ^ l.length - sumB l * (q * 2 ^ e) ≤ q * 2 ^ e) && decide (p * 2 ^ l.length - sumB l * (q * 2 ^ e) ≥ -(q * 2 ^ e)))) := rfl
  generalize partB p q e l = PB at *
  have HLE := hidMk hle
  have HR := hidMk row
  have HD := hidMk hd
  clear hle hd row
  have hM : ∃ M, q * 2 ^ e = M ∧ 0 < M ∧ M ≤ 1048574951424 := by
    refine ⟨_, rfl, Int.mul_pos hq.1 (by omega), ?_⟩
    have := Int.mul_le_mul hq.2 p2 (by omega) (by omega : (0 : Int) ≤ 999999)
    omega
  have hA : ∃ A, p * 2 ^ l.length = A ∧ -1048574951424 ≤ A ∧ A ≤ 1048574951424 := by
    refine ⟨_, rfl, ?_⟩
    have h1 : (p * 2 ^ l.length).natAbs = p.natAbs * (2 ^ l.length : Int).natAbs := Int.natAbs_mul _ _
    have h2 := Nat.mul_le_mul (show p.natAbs ≤ 999999 by omega) (show (2 ^ l.length : Int).natAbs ≤ 1048576 by omega)
    omega
  obtain ⟨M, hM, m1, m2⟩ := hM
  obtain ⟨A, hA, a1, a2⟩ := hA
  rw [hM, hA] at HP
  go_enter Tryz.func26, Tryz.ntmps26
  go_wp2_with fail
  go_loopg [9, 10] l.length (fun g s9 s10 wr => ∃ i : Nat, s10 = .int .i64 i ∧ s9 = .int .i64 (sumB (l.take i)) ∧ i ≤ l.length ∧ Hid (l.length - i = g) ∧ wr = w)
  case atStart => exact ⟨0, rfl, rfl, Nat.zero_le _, rfl, rfl⟩
  case round =>
    obtain ⟨i, rfl, rfl, hi, hg, rfl⟩ := hrel
    have b1 := HLE.out i hi
    have b2 := H20.out i hi
    by_cases hil : i < l.length
    · have q1 : (i : Int) < (l.length : Int) := by omega
      obtain ⟨a, ha⟩ : ∃ a, l[i]? = some a := ⟨l[i], List.getElem?_eq_getElem hil⟩
      obtain ⟨g1, hg1, hb1, k1⟩ := row_int (i := i) (a := a) HR.out ha hil
      have hd1 := HD.out a (List.mem_of_getElem? ha)
      have HS := hidMk (take_step ha)
      have b3 := HLE.out (i + 1) (by omega)
      have b4 := H20.out (i + 1) (by omega)
      rw [HS.out] at b3
      subst hg1
      generalize sumB (l.take i) = S at *
      generalize (2 : Int) ^ (i + 1) = PW at *
      generalize (2 : Int) ^ i = PV at *
      have q2 : decide (a < -1) = false := by simp; omega
      have q3 : decide (a > 1) = false := by simp; omega
      clear ha hM hA
      go_wp2_with fail
      go_roundg (l.length - (i + 1))
      case measure => have := hg.out; omega
      case rel => exact ⟨i + 1, rfl, by rw [HS.out], by omega, rfl, rfl⟩
    · have hie : i = l.length := by omega
      subst hie
      rw [HT.out.2] at b1 ⊢
      generalize sumB l = S at *
      have hSM : -1099511627776000000 ≤ S * M ∧ S * M ≤ 1099511627776000000 := by
        have h1 : (S * M).natAbs = S.natAbs * M.natAbs := Int.natAbs_mul _ _
        have h2 := Nat.mul_le_mul (show S.natAbs ≤ 1048576 by omega) (show M.natAbs ≤ 1048574951424 by omega)
        omega
      have wM : wrap64 (q * 2 ^ e) = M := by rw [hM]; unfold wrap64; omega
      have wA : wrap64 (p * 2 ^ l.length) = A := by rw [hA]; unfold wrap64; omega
      generalize hX : S * M = X at *
      clear hM hA b1 b2 s1 s2 p1 p2
      have wX : wrap64 (S * M) = X := by rw [hX]; unfold wrap64; omega
      have wL : wrap64 (A - X) = A - X := by unfold wrap64; omega
      have wN : wrap64 (-M) = -M := by unfold wrap64; omega
      go_wp2_with fail
      go_quiet (fail)
      simp only [wM, wA]
      have hb : Hid (Below wr.heap.size wr (wr.drewN nq)) := below_drewN (Below.refl _ _) nq
      generalize A - X = Y at *
      clear hX hSM wX wL wA
      by_cases h1 : Y ≤ M
      · by_cases h2 : Y ≥ -M
        · go_wp2_with fail
          go_ret
          exact ⟨by rw [HP.out]; simp [h1, h2], hb.out⟩
        · go_wp2_with fail
          go_ret
          exact ⟨by rw [HP.out]; simp [h1, h2], hb.out⟩
      · go_wp2_with fail
        go_ret
        exact ⟨by rw [HP.out, decide_eq_false (show ¬ Y ≤ M by omega)]; rfl, hb.out⟩
end Go.Proofs.YtodabmkcihafhaaGreatDoor

/- Sound: further. -/
namespace Go.Proofs.YtodabmkcihafhaaGreatDoor
open Go.RowKit
set_option linter.unusedVariables false
theorem eqD (a b a' b' : Int) (W : World) : (Op.equalIn 10000 54 (.agg #[.int .i64 a, .int .i64 b]) (.agg #[.int .i64 a', .int .i64 b'])).run Tryz.prog W = .ok (a == a' && b == b') W := by
  have hf : Tryz.prog.fieldsOf 54 = Tryz.prog.fieldsOf 54 := rfl
  obtain ⟨f1, f2, hf, h1, h2, h3, h4, h5, h6⟩ : ∃ f1 f2 : Field, Tryz.prog.fieldsOf 54 = #[f1, f2] ∧ f1.name ≠ "_" ∧ f2.name ≠ "_" ∧ f1.type = 3 ∧ f2.type = 3 ∧ f1.offset = 0 ∧ f2.offset = 1 := by
    refine ⟨(Tryz.prog.fieldsOf 54)[0]!, (Tryz.prog.fieldsOf 54)[1]!, by kernel_rfl, ?_, ?_, by kernel_rfl, by kernel_rfl, by kernel_rfl, by kernel_rfl⟩ <;> decide +kernel
  rw [show (10000 : Nat) = 9999 + 1 from rfl, run_equalIn_struct W 9999 54 _ _ (by kernel_rfl) (by kernel_rfl), hf]
  simp only [Op.eqFields, if_pos h1, if_pos h2, h3, h4, h5, h6, Sem.run_bind]
  rw [part_int (v := .int .i64 a) rfl, Result.andThen_ok, part_int (v := .int .i64 a') rfl, Result.andThen_ok, show (9999 : Nat) = 9998 + 1 from rfl, eq_int, Result.andThen_ok]
  cases hh : a == a' with
  | false => simp
  | true =>
    simp only [Bool.not_true, Bool.false_eq_true, if_false, Sem.run_bind]
    rw [part_int (v := .int .i64 b) rfl, Result.andThen_ok, part_int (v := .int .i64 b') rfl, Result.andThen_ok, eq_int, Result.andThen_ok]
    cases b == b' <;> simp
theorem LDg.up {l : List (Int × Int)} {cap g i j : Nat} {W : World} (h : LDg l cap g i W) (hij : i ≤ j) : LDg l cap g j W := by
  obtain ⟨cur, h1, h2, h3, h4⟩ := h.ex
  exact ⟨cur, h1, h2, h3, fun a p ha hp => h4 a p (by omega) hp⟩
theorem digP_get (x : Num) (k j : Nat) (h : j < k) : (digP x k)[j]? = some (dR x j, dI x j) := by
  simp [digP, List.getElem?_range h]
set_option maxHeartbeats 8000000 in
set_option maxRecDepth 100000 in
theorem further_any (N : Nat) (aZ aB : Addr) (K P m T r : Nat) (names : List (Int × Num)) (s : ByteArray) (x : Num) (k base : Nat) (v : Value) (w : World) (h : Bk N aZ aB K P m T r names w) (hv : valS names s = .ok x) (hk : k ≤ 20)
    (row : w.ownsRow base 54 2 v k (dpC (digP x k))) (hr : r < base) :
    Calls Tryz.prog 27 #[.pointer (some ⟨K, 0, none⟩), .string s, .int .i64 k, .int .i64 (unitP x : Nat), v] w fun e w' => e = .returned (.bool true) ∧ Tb T r names w' ∧ Kp (· = r) w w' := by
  have CD := hidMk (bdigits_any N aZ aB K P m T r names s ((k : Int) + 1) w h)
  have C15 := hidMk (fun e W => num_any e W)
  have HRL : Hid (r < w.heap.size) := by obtain ⟨es, c, h1, _⟩ := h.pw.tb.hr; exact (Array.getElem?_eq_some_iff.1 h1).1
  rw [hv] at CD
  have hrow0 : w.ownsRow base 54 2 v (digP x k).length (dpC (digP x k)) := by rw [digP_len]; exact row
  obtain ⟨o, cp, hv0, hor⟩ := row_digits hrow0
  rw [digP_len] at hv0
  subst hv0
  have HOR := hidMk hor
  clear hor hrow0 row h hv
  by_cases h20 : k = 20
  · subst h20
    have ht : tellA (.ok x) (((20 : Nat) : Int) + 1) = .err 6 0 := rfl
    have hE : ansE (tellA (.ok x) (((20 : Nat) : Int) + 1)) = 6 := by rw [ht]; rfl
    rw [hE] at CD
    clear hE ht
    go_enter Tryz.func27, Tryz.ntmps27
    go_wp2_with fail
    refine CD.out.mono ?_
    rintro e w1 ⟨v1, rfl, hrow, ⟨_, _, _, rfl⟩, ht1, hk1⟩
    have HR := hidMk (And.intro ht1 hk1)
    clear ht1 hk1 hrow CD
    go_wp2_with (go_at_call 15; refine (C15.out _ _).mono ?_; rintro e w7 ⟨rfl, rfl⟩)
    go_ret
    exact ⟨rfl, HR.out⟩
  · have ht : tellA (.ok x) ((k : Int) + 1) = .ok x := by
      unfold tellA
      exact if_neg (by omega)
    have hE : ansE (tellA (.ok x) ((k : Int) + 1)) = 0 ∧ dgU (.ok x) ((k : Int) + 1) = (unitP x : Nat) ∧ dgP (.ok x) ((k : Int) + 1) = digP x (k + 1) := by
      unfold dgU dgP
      rw [ht]
      refine ⟨rfl, rfl, ?_⟩
      show digP x ((k : Int) + 1).toNat = _
      rw [show ((k : Int) + 1).toNat = k + 1 by omega]
    rw [hE.1, hE.2.1, hE.2.2, digP_len] at CD
    generalize unitP x = U at *
    clear hE ht
    go_enter Tryz.func27, Tryz.ntmps27
    have q20 : ((k : Int) == 20) = false := by simp; omega
    go_wp2_with fail
    refine CD.out.mono ?_
    rintro e w1 ⟨v1, rfl, hrow, _, ht1, hk1⟩
    have hrow1 : w1.ownsRow w.heap.size 54 2 v1 (digP x (k + 1)).length (dpC (digP x (k + 1))) := by rw [digP_len]; exact hrow
    obtain ⟨o1, cp1, hv1, hor1⟩ := row_digits hrow1
    rw [digP_len] at hv1
    subst hv1
    have HR := hidMk (And.intro ht1 hk1)
    have HO1 := hidMk hor1
    clear ht1 hk1 hrow CD hrow1 hor1
    go_wp2_with (go_at_call 15; refine (C15.out _ _).mono ?_; rintro e w7 ⟨rfl, rfl⟩)
    go_loopg [15] k (fun g s15 wr => ∃ i : Nat, s15 = .int .i64 i ∧ i ≤ k ∧ Hid (k - i = g) ∧ ∃ nn, wr = w7.drewN nn)
    case atStart => exact ⟨0, rfl, Nat.zero_le _, rfl, 0, rfl⟩
    case round =>
      obtain ⟨i, rfl, hi, hg, nn, rfl⟩ := hrel
      by_cases hik : i < k
      · have q1 : (i : Int) < (k : Int) := by omega
        have hp1 := digP_get x (k + 1) i (by omega)
        have hp2 := digP_get x k i hik
        obtain ⟨g1, hg1, hb1, hl1⟩ := HO1.out.resolve_left (fun e => by rw [e] at hp1; simp at hp1)
        obtain ⟨g2, hg2, hb2, hl2⟩ := HOR.out.resolve_left (fun e => by rw [e] at hp2; simp at hp2)
        have hl2' := hl2.kept HR.out.2 (by omega)
        obtain ⟨k1, k2, _, _⟩ := (hl1.up (Nat.zero_le i)).cells hp1
        obtain ⟨k3, k4, _, _⟩ := (hl2'.up (Nat.zero_le i)).cells hp2
        subst hg1 hg2
        generalize dR x i = a at *
        generalize dI x i = b at *
        simp only at k1 k2 k3 k4
        have heq : ∀ W, (Op.equalIn 10000 54 (.agg #[.int .i64 a, .int .i64 b]) (.agg #[.int .i64 a, .int .i64 b])).run Tryz.prog W = .ok true W := fun W => by rw [eqD]; simp
        clear hl1 hl2 hl2' hp1 hp2
        go_wp2_with fail
        go_quiet (fail)
        go_wp2_with fail
        go_roundg (k - (i + 1))
        case measure => have := hg.out; omega
        case rel => exact ⟨i + 1, rfl, by omega, rfl, _, rfl⟩
      · have hie : i = k := by omega
        subst hie
        go_wp2_with fail
        go_ret
        have hdr : Below w7.heap.size w7 (w7.drewN nn) := below_drewN (Below.refl _ _) nn
        exact ⟨rfl, HR.out.1.of_below hdr, HR.out.2.below hdr⟩
end Go.Proofs.YtodabmkcihafhaaGreatDoor

/- The law Sound. -/
namespace Go.Proofs.YtodabmkcihafhaaGreatDoor
open Go.RowKit
set_option linter.unusedVariables false
theorem part_good {f : Fr} (hf : f.Ok) {e : Nat} (he : e ≤ 20) (hfit : fitB f e = true) (k : Nat) : partB f.n f.d e (digL f e k) = true := by
  have hd := unD_in hf he
  have hi := lf_in hd.1 (fit_in hfit) k
  rw [lf_sum] at hi
  unfold partB
  rw [digL_len]
  show (decide (f.n * 2 ^ k - sumB (digL f e k) * unD f e ≤ unD f e) && decide (f.n * 2 ^ k - sumB (digL f e k) * unD f e ≥ -(unD f e))) = true
  generalize f.n * 2 ^ k - sumB (digL f e k) * unD f e = Y at *
  generalize unD f e = D at *
  simp
  omega
theorem part_nil (f : Fr) (e : Nat) : partB f.n f.d e [] = fitB f e := by
  unfold partB fitB sumB
  generalize f.d * 2 ^ e = D
  simp
  rw [Bool.and_comm]
theorem row_grown {w w' : World} {base : Nat} {row : Option Nat} {e : TypeId} {sz : Nat} {v : Value} {n : Nat} {xs : List Value} (h : w.ownsRow base e sz v n xs) (g : w.grownBy w' row) (hne : ∀ b, v.ownBlock = some b → row ≠ some b) : w'.ownsRow base e sz v n xs := by
  obtain ⟨h1, h2⟩ := h
  refine ⟨h1, ?_⟩
  rcases h2 with h2 | ⟨b, cap, cur, e1, e2, e3, e4, e5, e6, e7⟩
  · exact Or.inl h2
  · exact Or.inr ⟨b, cap, cur, e1, e2, (g.block _ (Array.getElem?_eq_some_iff.1 e3).1 (fun h => hne b (by rw [e1]; rfl) h.symm)).trans e3, e4, e5, e6, e7⟩
/-- The law's world behind Digits. -/
structure SW (N : Nat) (aZ aB : Addr) (K P m T r : Nat) (w : World) (x : Num) (k bx base : Nat) (lv : Value) (W : World) : Prop where
  bk : Bk N aZ aB K P m T r [] W
  hx : W.heap[bx]? = some (.cells (numC x) 27 (0, 0))
  row : W.ownsRow base 54 2 lv k (dpC (digP x k))
  hb : Below w.heap.size w W
theorem SW.below {N : Nat} {aZ aB : Addr} {K P m T r : Nat} {w : World} {x : Num} {k bx base : Nat} {lv : Value} {W W' : World} (h : SW N aZ aB K P m T r w x k bx base lv W) (g : Below W.heap.size W W') : SW N aZ aB K P m T r w x k bx base lv W' :=
  ⟨h.bk.below g, (g.block _ (Array.getElem?_eq_some_iff.1 h.hx).1).trans h.hx, row_below h.row g, h.hb.trans (g.mono h.hb.size)⟩
/-- Two rows that grow side by side. -/
structure Tw (b : Nat) (v1 v2 : Value) (i : Nat) (l1 l2 : List Int) (W0 W : World) : Prop where
  r1 : W.ownsRow b 3 1 v1 i (iC l1)
  r2 : W.ownsRow b 3 1 v2 i (iC l2)
  ne : ∀ g, v1.ownBlock = some g → v2.ownBlock ≠ some g
  hb : Below b W0 W
structure Tw1 (b : Nat) (v1 v2 : Value) (i : Nat) (l1 l2 : List Int) (W0 W : World) : Prop where
  r1 : W.ownsRow b 3 1 v1 (i + 1) (iC l1)
  r2 : W.ownsRow b 3 1 v2 i (iC l2)
  ne : ∀ g, v1.ownBlock = some g → v2.ownBlock ≠ some g
  hb : Below b W0 W
theorem Tw.one {b : Nat} {v1 v2 v' : Value} {i : Nat} {l1 l2 : List Int} {W0 W W' : World} {a : Int} (h : Tw b v1 v2 i l1 l2 W0 W) (hbs : b ≤ W.heap.size) (o : Obj)
    (hown : W'.ownsRow b 3 1 v' (i + 1) (iC l1 ++ [.int .i64 a])) (g : (W.alloc o).grownBy W' v1.ownBlock) (hat : v'.ownBlock = v1.ownBlock ∨ v'.ownBlock = some (W.alloc o).heap.size) : Tw1 b v' v2 i (l1 ++ [a]) l2 W0 W' := by
  refine ⟨by simpa [iC] using hown, row_grown (h.r2.alloc o) g (fun c hc e => h.ne c e hc), fun c hc hc2 => ?_, (h.hb.alloc hbs o).grown g (by simp; omega) (fun c hc => (h.r1.lt c hc).1)⟩
  rcases hat with e | e
  · exact h.ne c (e ▸ hc) hc2
  · rw [e] at hc
    have := (h.r2.lt c hc2).2
    have := Option.some.inj hc
    simp at this
    omega
theorem Tw1.two {b : Nat} {v1 v2 v' : Value} {i : Nat} {l1 l2 : List Int} {W0 W W' : World} {a : Int} (h : Tw1 b v1 v2 i l1 l2 W0 W) (hbs : b ≤ W.heap.size) (o : Obj)
    (hown : W'.ownsRow b 3 1 v' (i + 1) (iC l2 ++ [.int .i64 a])) (g : (W.alloc o).grownBy W' v2.ownBlock) (hat : v'.ownBlock = v2.ownBlock ∨ v'.ownBlock = some (W.alloc o).heap.size) : Tw b v1 v' (i + 1) l1 (l2 ++ [a]) W0 W' := by
  refine ⟨row_grown (h.r1.alloc o) g (fun c hc e => h.ne c hc e), by simpa [iC] using hown, fun c hc hc2 => ?_, (h.hb.alloc hbs o).grown g (by simp; omega) (fun c hc => (h.r2.lt c hc).1)⟩
  rcases hat with e | e
  · exact h.ne c hc (e ▸ hc2)
  · rw [e] at hc2
    have := (h.r1.lt c hc).2
    have := Option.some.inj hc2
    simp at this
    omega
set_option maxHeartbeats 8000000 in
set_option maxRecDepth 100000 in
theorem sound_law (N : Nat) (aZ aB : Addr) (s : ByteArray) (n : Int) (w : World) (hS : Sen N aZ aB w) (hN : N ≤ w.heap.size) (hn : (Lit.int .i64 n).wf = true) :
    Calls Tryz.prog 9 #[.string s, .int .i64 n] w fun e w' => e = .returned (.bool true) ∧ Below w.heap.size w w' := by
  have CB := hidMk (begun_fn N aZ aB w hS hN)
  have C1 := hidMk (fun W (hb : Below w.heap.size w W) => new_any N aZ aB W (hS.below hb hN) (Nat.le_trans hN hb.size))
  have CV := hidMk (fun W K P m T r h => value_any N aZ aB K P m T r [] s W h)
  have CD := hidMk (fun W K P m T r h => bdigits_any N aZ aB K P m T r [] s n W h)
  have CM := hidMk (fun e W => num_any e W)
  have HX0 := hidMk (dg_vals (names := []) (s := s) (fun p hp => by simp at hp) n)
  obtain ⟨i0, hi, hz0, hz1, hz2⟩ := info_parts Tryz.infoInt
  have Hi : Hid (Tryz.prog.info? 3 = some i0) := hi
  have Hz : Hid (i0.zero = some (.int .i64 0)) := hz0
  have Hz1 : Hid (i0.size = 1) := hz1
  have Hz2 : Hid (i0.bytes = 8) := hz2
  clear hi hz0 hz1 hz2 hn
  clear hS hN
  go_enter Tryz.func9, Tryz.ntmps9
  go_wp2_with fail
  refine CB.out.mono ?_
  rintro e w1 ⟨rfl, hb1⟩
  have HB1 := hidMk hb1
  clear hb1 CB
  go_wp2_with fail
  refine (C1.out w1 HB1.out).mono ?_
  rintro e w2 ⟨rfl, hbk2, hb2⟩
  have HB2 := hidMk (HB1.out.trans (hb2.mono HB1.out.size))
  have HR2 := hidMk HB1.out.size
  have HK2 := hidMk hbk2
  clear HB1 hb2 hbk2 C1
  generalize w1.heap.size + 4 = K at *
  generalize w1.heap.size + 3 = P at *
  generalize w1.heap.size + 2 = T at *
  obtain ⟨r, hr⟩ : ∃ r, w1.heap.size + 1 = r := ⟨_, rfl⟩
  rw [hr] at HK2
  have HRW : Hid (w.heap.size ≤ r) := by have := HR2.out; show _ ≤ _; omega
  clear HR2 hr
  go_wp2_with fail
  refine (CV.out w2 K P _ T r HK2.out).mono ?_
  rintro e w3 ⟨rfl, ht3, hk3⟩
  have HK3 := hidMk (HK2.out.kept hk3 ht3)
  have HB3 := hidMk (HB2.out.trans (hk3.low HRW.out HB2.out.size))
  clear HK2 HB2 ht3 hk3 CV
  generalize w1.heap.size = m at *
  rcases HX0.out with ⟨x, _, _, ht, hx, _, _, hn0, hn1, hv⟩ | ⟨x, hv, hx, hr, ht⟩ | ⟨q, p, hv, hq, ht⟩
  · obtain ⟨k, rfl⟩ : ∃ k : Nat, n = k := ⟨n.toNat, by omega⟩
    have hk20 : k ≤ 20 := by omega
    have HV : Hid (dgU (valS [] s) k = (unitP x : Nat) ∧ dgP (valS [] s) k = digP x k ∧ ansE (tellA (valS [] s) k) = 0 ∧ ansP (tellA (valS [] s) k) = 0) := by
      unfold dgU dgP
      rw [ht]
      exact ⟨rfl, rfl, rfl, rfl⟩
    rw [HV.out.1, HV.out.2.1, HV.out.2.2.1, HV.out.2.2.2, digP_len] at CD
    have CF := hidMk (fun base v W K P m T r h row hr => further_any N aZ aB K P m T r [] s x k base v W h hv hk20 row hr)
    rw [hv]
    have e1 : ansV (.ok x) = .tuple #[.agg (numC x), .int .i64 0, .int .i64 0] := rfl
    rw [e1]
    obtain ⟨u1, u2, u3, u4⟩ := unit_fit hx
    have CR := hidMk (fun base v W row => part_any x.re.n x.re.d (unitP x) base (digL x.re (unitP x) k) v W (by rw [digL_len]; exact row) (by rw [digL_len]; exact hk20) (digL_dgs _ _ _) u1 ⟨hx.1.2.2.1, hx.1.2.2.2.1⟩ ⟨hx.1.1, hx.1.2.1⟩)
    have CI := hidMk (fun base v W row => part_any x.im.n x.im.d (unitP x) base (digL x.im (unitP x) k) v W (by rw [digL_len]; exact row) (by rw [digL_len]; exact hk20) (digL_dgs _ _ _) u1 ⟨hx.2.2.2.1, hx.2.2.2.2.1⟩ ⟨hx.2.1, hx.2.2.1⟩)
    rw [part_good hx.1 u1 u2 k] at CR
    rw [part_good hx.2 u1 u3 k] at CI
    have CR1 := hidMk (fun e (he : e ≤ 20) W => part_any x.re.n x.re.d e 0 [] (.slice none 0 0) W (World.ownsRow_nil _ _ _ _) (by simp) (fun a ha => by simp at ha) he ⟨hx.1.2.2.1, hx.1.2.2.2.1⟩ ⟨hx.1.1, hx.1.2.1⟩)
    have CI1 := hidMk (fun e (he : e ≤ 20) W => part_any x.im.n x.im.d e 0 [] (.slice none 0 0) W (World.ownsRow_nil _ _ _ _) (by simp) (fun a ha => by simp at ha) he ⟨hx.2.2.2.1, hx.2.2.2.2.1⟩ ⟨hx.2.1, hx.2.2.1⟩)
    simp only [part_nil] at CR1 CI1
    have HU4 := hidMk u4
    have HGR := hidMk (fun j (hj : j < k) => digP_get x k j hj)
    have HSR : Hid (∀ j, digL x.re (unitP x) (j + 1) = digL x.re (unitP x) j ++ [dR x j]) := fun j => digL_succ _ _ _
    have HSI : Hid (∀ j, digL x.im (unitP x) (j + 1) = digL x.im (unitP x) j ++ [dI x j]) := fun j => digL_succ _ _ _
    have H00 : Hid (digL x.re (unitP x) 0 = [] ∧ digL x.im (unitP x) 0 = []) := ⟨rfl, rfl⟩
    obtain ⟨⟨d1, d2, n1, n2, _⟩, ⟨d3, d4, n3, n4, _⟩⟩ := hx
    clear hv ht e1 HV HX0 u2 u3 u4
    generalize digL x.re (unitP x) = LR at *
    generalize digL x.im (unitP x) = LI at *
    generalize unitP x = U at *
    go_upto_region 6 with fail
    have hb4 := hidMk (HB3.out.trans ((fr_below w3 (.cells (numC x) 27)).mono HB3.out.size))
    have HK4 := hidMk (HK3.out.below (fr_below w3 (.cells (numC x) 27)))
    have hx4 := heap_alloc_new w3 (.cells (numC x) 27)
    generalize w3.alloc _ = W4 at *
    generalize w3.heap.size = bx at *
    clear HB3 HK3
    go_wp2_with fail
    refine (CD.out W4 K P _ T r HK4.out).mono ?_
    rintro e w5 ⟨v, rfl, hrow, hsl, ht5, hk5⟩
    have HR4 : Hid (r < W4.heap.size) := by obtain ⟨es, c, h1, _⟩ := HK4.out.pw.tb.hr; exact (Array.getElem?_eq_some_iff.1 h1).1
    have hbx5 := hk5.block bx (Array.getElem?_eq_some_iff.1 hx4).1 (fun e => by
      obtain ⟨es, c, h1, _⟩ := HK4.out.pw.tb.hr
      rw [e, h1] at hx4
      cases hx4)
    have HW5 : Hid (SW N aZ aB K P m T r w x k bx W4.heap.size v w5) := ⟨HK4.out.kept hk5 ht5, hbx5.trans hx4, hrow, hb4.out.trans (hk5.low HRW.out hb4.out.size)⟩
    clear hrow hsl ht5 hk5 hb4 HK4 hbx5 hx4 CD
    generalize W4.heap.size = base at *
    have hrow5 : w5.ownsRow base 54 2 v (digP x k).length (dpC (digP x k)) := by rw [digP_len]; exact HW5.out.row
    obtain ⟨o, c, hv5, hor⟩ := row_digits hrow5
    rw [digP_len] at hv5
    subst hv5
    have HOR := hidMk hor
    obtain ⟨x0, x1, x2, x3⟩ := four_cells HW5.out.hx
    clear hrow5 hor
    go_wp2_with (go_at_call 15; refine (CM.out _ _).mono ?_; rintro e w7 ⟨rfl, rfl⟩)
    clear x0 x1 x2 x3
    go_loopg [14, 15, 16] k (fun g s14 s15 s16 wr => ∃ i : Nat, s16 = .int .i64 i ∧ i ≤ k ∧ Hid (k - i = g) ∧ Hid (Tw w7.heap.size s14 s15 i (LR i) (LI i) w7 wr))
    case atStart =>
      refine ⟨0, rfl, Nat.zero_le _, rfl, ?_⟩
      rw [H00.out.1, H00.out.2]
      exact ⟨World.ownsRow_nil _ _ _ _, World.ownsRow_nil _ _ _ _, fun g h => (by cases h), Below.refl _ _⟩
    case round =>
      obtain ⟨i, rfl, hi, hg, HT⟩ := hrel
      have HSZ := hidMk HT.out.hb.size
      by_cases hik : i < k
      · have q1 : (i : Int) < (k : Int) := by omega
        have hp := HGR.out i hik
        obtain ⟨g1, hg1, hb1, hl1⟩ := HOR.out.resolve_left (fun e => by rw [e] at hp; simp at hp)
        subst hg1
        have HL := hidMk (hl1.up (Nat.zero_le i))
        have HPP := hidMk hp
        have hrg : r < g1 := Nat.lt_of_lt_of_le HR4.out hb1
        obtain ⟨k1, k2, _, _⟩ := (HL.out.kept (r := r) (Kp.of_below HT.out.hb) hrg).cells hp
        have HS1 := hidMk (HSR.out i)
        have HS2 := hidMk (HSI.out i)
        generalize dR x i = A at *
        generalize dI x i = B at *
        simp only at k1 k2
        clear hl1 hp hb1 HSR HSI
        go_upto_region 19 with (at_builtin; refine wpList_append_own_at _ rfl _ _ 52 rfl w7.heap.size 3 i0 _ 1 8 Tryz.underlying52 Hi.out Hz.out Hz1.out Hz2.out rfl (by decide) u14 i (iC (LR i)) rfl (HT.out.r1.alloc _) ⟨wr.heap.size, 0, none⟩ 1 1 [.int .i64 A] rfl rfl (ic_new wr A) (ic_one _) (by unfold maxLen; omega) (by omega) (by have := HSZ.out; simp; omega) ?_; intro v14 w8 hown' hgrow3 hnil3 hat)
        have HT1 := hidMk (HT.out.one HSZ.out _ hown' hgrow3 hat)
        clear hown' hgrow3 hnil3 hat k1 k2 HT
        have HSZ1 := hidMk HT1.out.hb.size
        obtain ⟨k1, k2, _, _⟩ := (HL.out.kept (r := r) (Kp.of_below HT1.out.hb) hrg).cells HPP.out
        simp only at k1 k2
        go_wp2_with (at_builtin; refine wpList_append_own_at _ rfl _ _ 52 rfl w7.heap.size 3 i0 _ 1 8 Tryz.underlying52 Hi.out Hz.out Hz1.out Hz2.out rfl (by decide) u15 i (iC (LI i)) rfl (HT1.out.r2.alloc _) ⟨w8.heap.size, 0, none⟩ 1 1 [.int .i64 B] rfl rfl (ic_new w8 B) (ic_one _) (by unfold maxLen; omega) (by omega) (by have := HSZ1.out; simp; omega) ?_; intro v15 w9 hown' hgrow3 hnil3 hat)
        go_roundg (k - (i + 1))
        case measure => have := hg.out; omega
        case rel =>
          refine ⟨i + 1, rfl, by omega, rfl, ?_⟩
          rw [HS1.out, HS2.out]
          exact HT1.out.two HSZ1.out _ hown' hgrow3 hat
      · have hie : i = k := by omega
        subst hie
        have HW8 := hidMk (HW5.out.below HT.out.hb)
        have HR1 := hidMk HT.out.r1
        have HR2 := hidMk HT.out.r2
        clear HW5 HT hi hik
        obtain ⟨x0, x1, x2, x3⟩ := four_cells HW8.out.hx
        go_wp2_with fail
        refine (CR.out _ _ _ HR1.out).mono ?_
        rintro e w8 ⟨rfl, hb8⟩
        have HW9 := hidMk (HW8.out.below hb8)
        have HR3 := hidMk (row_below HR2.out hb8)
        clear HR1 HR2 HW8 hb8 x0 x1 x2 x3 CR
        obtain ⟨x0, x1, x2, x3⟩ := four_cells HW9.out.hx
        go_wp2_with fail
        refine (CI.out _ _ _ HR3.out).mono ?_
        rintro e w9 ⟨rfl, hb9⟩
        have HW10 := hidMk (HW9.out.below hb9)
        clear HR3 HW9 hb9 x0 x1 x2 x3 CI
        obtain ⟨x0, x1, x2, x3⟩ := four_cells HW10.out.hx
        by_cases hU : U = 0
        · subst hU
          go_wp2_with fail
          refine (CF.out _ _ _ _ _ _ _ _ HW10.out.bk HW10.out.row HR4.out).mono ?_
          rintro e w11 ⟨rfl, ht11, hk11⟩
          have HB11 := hidMk (HW10.out.hb.trans (hk11.low HRW.out HW10.out.hb.size))
          clear ht11 hk11 HW10
          go_wp2_with fail
          go_ret
          exact ⟨rfl, HB11.out⟩
        · obtain ⟨u, rfl⟩ : ∃ u, U = u + 1 := ⟨U - 1, by omega⟩
          have q2 : ((u + 1 : Nat) : Int) > 0 := by omega
          have e2 : ((u + 1 : Nat) : Int) - 1 = (u : Int) := by omega
          have HNF := hidMk (HU4.out u (by omega))
          have hu20 : u ≤ 20 := by omega
          have HCF : Hid (∀ W, Bk N aZ aB K P m T r [] W → W.ownsRow base 54 2 (.slice o i c) i (dpC (digP x i)) → Calls Tryz.prog 27 #[.pointer (some ⟨K, 0, none⟩), .string s, .int .i64 i, .int .i64 ((u : Int) + 1), .slice o i c] W fun e w' => e = .returned (.bool true) ∧ Tb T r [] w' ∧ Kp (· = r) W w') := fun W h row => CF.out base _ W K P m T r h row HR4.out
          clear CF HU4
          go_wp2_with fail
          refine (CR1.out u hu20 _).mono ?_
          rintro e w11 ⟨rfl, hb11⟩
          have HW11 := hidMk (HW10.out.below hb11)
          clear HW10 hb11 x0 x1 x2 x3 CR1
          obtain ⟨x0, x1, x2, x3⟩ := four_cells HW11.out.hx
          go_wp2_with fail
          refine (CI1.out u hu20 _).mono ?_
          rintro e w12 ⟨rfl, hb12⟩
          have HW12 := hidMk (HW11.out.below hb12)
          clear HW11 hb12 x0 x1 x2 x3 CI1
          cases hf1 : fitB x.re u with
          | false =>
            clear HNF
            go_wp2_with fail
            refine (HCF.out _ HW12.out.bk HW12.out.row).mono ?_
            rintro e w13 ⟨rfl, ht13, hk13⟩
            have HB13 := hidMk (HW12.out.hb.trans (hk13.low HRW.out HW12.out.hb.size))
            clear ht13 hk13 HW12
            go_wp2_with fail
            go_ret
            exact ⟨rfl, HB13.out⟩
          | true =>
            have hf2 : fitB x.im u = false := by
              cases h : fitB x.im u with
              | false => rfl
              | true => exact absurd ⟨hf1, h⟩ HNF.out
            rw [hf2]
            clear HNF hf1 hf2
            go_wp2_with fail
            refine (HCF.out _ HW12.out.bk HW12.out.row).mono ?_
            rintro e w13 ⟨rfl, ht13, hk13⟩
            have HB13 := hidMk (HW12.out.hb.trans (hk13.low HRW.out HW12.out.hb.size))
            clear ht13 hk13 HW12
            go_wp2_with fail
            go_ret
            exact ⟨rfl, HB13.out⟩
  · have HV : Hid (dgU (valS [] s) n = 0 ∧ dgP (valS [] s) n = [] ∧ ansE (tellA (valS [] s) n) = 6 ∧ ansP (tellA (valS [] s) n) = 0) := by
      unfold dgU dgP
      rw [ht]
      exact ⟨rfl, rfl, rfl, rfl⟩
    rw [hv]
    have e1 : ansV (.ok x) = .tuple #[.agg (numC x), .int .i64 0, .int .i64 0] := rfl
    rw [e1]
    rw [HV.out.1, HV.out.2.1, HV.out.2.2.1, HV.out.2.2.2] at CD
    clear hv ht hx e1 HV HX0
    go_upto_region 6 with fail
    have hb4 := hidMk (HB3.out.trans ((fr_below w3 (.cells (numC x) 27)).mono HB3.out.size))
    have HK4 := hidMk (HK3.out.below (fr_below w3 (.cells (numC x) 27)))
    generalize w3.alloc _ = W4 at *
    clear HB3 HK3
    go_wp2_with fail
    refine (CD.out W4 K P _ T r HK4.out).mono ?_
    rintro e w5 ⟨v, rfl, hrow, hsl, ht5, hk5⟩
    obtain ⟨o, c, hv5⟩ := row_len hrow
    subst hv5
    have HB5 := hidMk (hb4.out.trans (hk5.low HRW.out hb4.out.size))
    clear hrow hsl ht5 hk5 hb4 HK4
    rcases hr with hr | hr
    · go_wp2_with (go_at_call 15; refine (CM.out _ _).mono ?_; rintro e w7 ⟨rfl, rfl⟩)
      go_ret
      exact ⟨rfl, HB5.out⟩
    · go_wp2_with (go_at_call 15; refine (CM.out _ _).mono ?_; rintro e w7 ⟨rfl, rfl⟩)
      all_goals go_ret
      all_goals exact ⟨rfl, HB5.out⟩
  · have HV : Hid (dgU (valS [] s) n = 0 ∧ dgP (valS [] s) n = [] ∧ ansE (tellA (valS [] s) n) = q ∧ ansP (tellA (valS [] s) n) = p) := by
      unfold dgU dgP
      rw [ht]
      exact ⟨rfl, rfl, rfl, rfl⟩
    rw [hv]
    have e1 : ansV (.err q p) = .tuple #[.agg (numC ⟨⟨0, 0⟩, ⟨0, 0⟩⟩), .int .i64 q, .int .i64 p] := rfl
    rw [e1]
    rw [HV.out.1, HV.out.2.1, HV.out.2.2.1, HV.out.2.2.2] at CD
    have hne : (q != 0) = true := by simpa using hq
    clear hv ht hq e1 HV HX0
    go_upto_region 6 with fail
    have hb4 := hidMk (HB3.out.trans ((fr_below w3 (.cells (numC ⟨⟨0, 0⟩, ⟨0, 0⟩⟩) 27)).mono HB3.out.size))
    have HK4 := hidMk (HK3.out.below (fr_below w3 (.cells (numC ⟨⟨0, 0⟩, ⟨0, 0⟩⟩) 27)))
    generalize w3.alloc _ = W4 at *
    clear HB3 HK3
    go_wp2_with fail
    refine (CD.out W4 K P _ T r HK4.out).mono ?_
    rintro e w5 ⟨v, rfl, hrow, hsl, ht5, hk5⟩
    obtain ⟨o, c, hv5⟩ := row_len hrow
    subst hv5
    have HB5 := hidMk (hb4.out.trans (hk5.low HRW.out hb4.out.size))
    clear hrow hsl ht5 hk5 hb4 HK4
    go_wp2_with (go_at_call 15; refine (CM.out _ _).mono ?_; rintro e w7 ⟨rfl, rfl⟩)
    go_ret
    exact ⟨rfl, HB5.out⟩
end Go.Proofs.YtodabmkcihafhaaGreatDoor

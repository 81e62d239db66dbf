import Derived.Test.YtodabmkcihafhaaGreatDoorRows
import Derived.Test.YtodabmkcihafhaaGreatDoorK3
import Derived.Test.YtodabmkcihafhaaGreatDoorK7

/- The document's fractions: abs, lowest, made, plus, less, times. -/
namespace Go.Proofs.YtodabmkcihafhaaGreatDoor
open Go.RowKit
set_option linter.unusedVariables false

set_option maxHeartbeats 400000 in
theorem rabs_any (n : Int) (w : World) (h1 : -4000000000000 ≤ n) (h2 : n ≤ 4000000000000) : Calls Tryz.prog 88 #[.int .i64 n] w fun e w' => e = .returned (.int .i64 n.natAbs) ∧ w' = w := by
  by_cases h : n < 0
  · have HN : Hid (-n = (n.natAbs : Int)) := by show -n = _; omega
    go_enter Tryz.func88, Tryz.ntmps88
    go_wp2_with fail
    go_ret
    rw [← HN.out]
    exact ⟨rfl, rfl⟩
  · have HN : Hid (n = (n.natAbs : Int)) := by show n = _; omega
    go_enter Tryz.func88, Tryz.ntmps88
    go_wp2_with fail
    go_ret
    refine ⟨?_, rfl⟩
    rw [← HN.out]
    rfl
def rlowV (n d : Int) : Value := .tuple #[.agg #[.int .i64 (lowP n d).n, .int .i64 (lowP n d).d], .bool (!mkB n d)]
theorem big_iff (f : Fr) (hd : 0 < f.d) : (!f.big) = (decide ((f.n.natAbs : Int) ≤ 999999) && decide (f.d ≤ 999999)) := by
  unfold Fr.big
  by_cases h1 : (f.n.natAbs : Int) ≤ 999999
  · by_cases h2 : f.d ≤ 999999
    · have : ¬ (f.n > 999999 ∨ f.n < -999999 ∨ f.d > 999999) := by omega
      simp [h1, h2, this]
    · have : f.n > 999999 ∨ f.n < -999999 ∨ f.d > 999999 := by omega
      simp [h2]
      omega
  · have : f.n > 999999 ∨ f.n < -999999 ∨ f.d > 999999 := by omega
    simp [h1, this]
set_option maxHeartbeats 2000000 in
theorem rlow_any (n d : Int) (w : World) (h1 : -4000000000000 ≤ n) (h2 : n ≤ 4000000000000) (h3 : 0 < d) (h4 : d ≤ 4000000000000) :
    Calls Tryz.prog 61 #[.int .i64 n, .int .i64 d] w fun e w' => e = .returned (rlowV n d) ∧ Below w.heap.size w w' := by
  have hg0 := gcdP_pos (n := n) h3
  have hgl := gcd_le n d h3
  have q1 : n.tdiv (gcdP n d) = (lowP n d).n := Int.tdiv_eq_ediv_of_dvd (gcdP_dvd_n n d)
  have q2 : d.tdiv (gcdP n d) = (lowP n d).d := Int.tdiv_eq_ediv_of_dvd (gcdP_dvd_d n d)
  have hla := low_abs (n := n) h3
  have hld := low_d_pos (n := n) h3
  have hw3 : wrap64 (lowP n d).n = (lowP n d).n := by unfold wrap64; omega
  have hw4 : wrap64 (lowP n d).d = (lowP n d).d := by unfold wrap64; omega
  have HB : Hid ((!mkB n d) = (decide (((lowP n d).n.natAbs : Int) ≤ 999999) && decide ((lowP n d).d ≤ 999999))) := big_iff _ hld
  have HG : Hid (gcdP n d = ((Nat.gcd n.natAbs d.natAbs : Nat) : Int)) := rfl
  have HV : Hid (rlowV n d = .tuple #[.agg #[.int .i64 (lowP n d).n, .int .i64 (lowP n d).d], .bool (!mkB n d)]) := rfl
  have ca := fun W => rabs_any (lowP n d).n W (by omega) (by omega)
  generalize rlowV n d = V at *
  generalize (!mkB n d) = NB at *
  generalize hgg : gcdP n d = g at *
  generalize hll : lowP n d = l at *
  clear hgg hll
  have HQ : Hid (n.tdiv g = l.n ∧ d.tdiv g = l.d ∧ wrap64 l.n = l.n ∧ wrap64 l.d = l.d) := ⟨q1, q2, hw3, hw4⟩
  have HA : Hid (∀ W, Calls Tryz.prog 88 #[.int .i64 l.n] W fun e w' => e = .returned (.int .i64 l.n.natAbs) ∧ w' = W) := ca
  clear q1 q2 hw3 hw4 ca
  have ca1 := rabs_any n (w.alloc (.cells #[.int .i64 0, .int .i64 0] 90)) h1 h2
  have ca2 := rabs_any d (w.alloc (.cells #[.int .i64 0, .int .i64 0] 90)) (by omega) h4
  go_enter Tryz.func61, Tryz.ntmps61
  go_wp2_with fail
  refine ca1.mono ?_
  rintro e w1 ⟨rfl, hw1⟩
  have hw1 := hw1.symm
  subst hw1
  go_wp2_with fail
  refine ca2.mono ?_
  rintro e w1 ⟨rfl, hw1⟩
  have hw1 := hw1.symm
  subst hw1
  clear ca1 ca2
  go_wp2_with fail
  go_loopg [6, 7] d.natAbs (fun g s6 s7 wr => ∃ a b : Nat, s6 = .int .i64 a ∧ s7 = .int .i64 b ∧ Hid (Nat.gcd a b = Nat.gcd n.natAbs d.natAbs) ∧ a ≤ 4000000000000 ∧ b ≤ 4000000000000 ∧ Hid (b = g) ∧ wr = w.alloc (.cells #[.int .i64 0, .int .i64 0] 90))
  case atStart =>
    exact ⟨n.natAbs, d.natAbs, rfl, rfl, rfl, by omega, by omega, rfl, rfl⟩
  case round =>
    obtain ⟨a, b, rfl, rfl, HI, ha, hb, hg, rfl⟩ := hrel
    by_cases hb0 : b = 0
    · subst hb0
      have hag : (a : Int) = g := by rw [HG.out, ← HI.out, Nat.gcd_zero_right]
      have HAG := hidMk hag
      have q3 : ¬ g = 0 := by omega
      have q4 : (g == 0) = false := by simpa using q3
      have q5 : ¬ d < 0 := by omega
      clear hag
      rw [HAG.out]
      obtain ⟨qq1, qq2, qq3, qq4⟩ := HQ.out
      go_wp2_with fail
      go_region
      have hW0 : Hid ((((w.alloc (.cells #[.int .i64 0, .int .i64 0] 90)).alloc (.cells #[.int .i64 l.n, .int .i64 l.d] 90)).drew.drew).heap[w.heap.size]? = some (.cells #[.int .i64 0, .int .i64 0] 90 (0, 0)) ∧ (((w.alloc (.cells #[.int .i64 0, .int .i64 0] 90)).alloc (.cells #[.int .i64 l.n, .int .i64 l.d] 90)).drew.drew).heap[w.heap.size + 1]? = some (.cells #[.int .i64 l.n, .int .i64 l.d] 90 (0, 0)) ∧ Below w.heap.size w (((w.alloc (.cells #[.int .i64 0, .int .i64 0] 90)).alloc (.cells #[.int .i64 l.n, .int .i64 l.d] 90)).drew.drew)) := by
        refine ⟨?_, ?_, ?_⟩
        · show ((w.alloc _).alloc _).heap[_]? = _
          rw [Below.heap_alloc _ _ _ (by simp)]
          exact heap_alloc_new w _
        · have := heap_alloc_new (w.alloc (.cells #[.int .i64 0, .int .i64 0] 90)) (.cells #[.int .i64 l.n, .int .i64 l.d] 90)
          show ((w.alloc _).alloc _).heap[_]? = _
          simpa using this
        · exact ((((Below.refl _ w).alloc (Nat.le_refl _) _).alloc (by simp) _).drew).drew
      go_wp2_with fail
      by_cases hbn : (l.n.natAbs : Int) ≤ 999999
      · have hbd : decide ((l.n.natAbs : Int) ≤ 999999) = true := by simpa using hbn
        refine region_inv (nt := 42)
          (fun s => match s with
            | 0 => .int .i64 n
            | 1 => .int .i64 d
            | 4 => .pointer (some ⟨w.heap.size, 0, none⟩)
            | 5 => .bool false
            | 6 => .int .i64 g
            | 7 => .int .i64 0
            | 8 => u8
            | 9 => .pointer (some ⟨w.heap.size + 1, 0, none⟩)
            | 10 => .int .i64 n
            | 11 => .int .i64 n.natAbs
            | 12 => .int .i64 d
            | 13 => .int .i64 d.natAbs
            | 14 => .int .i64 0
            | 15 => .bool false
            | 16 => u16
            | 17 => u17
            | 18 => u18
            | 19 => u19
            | 20 => u20
            | 21 => .int .i64 d
            | 22 => .bool false
            | 25 => .int .i64 n
            | 26 => .int .i64 g
            | 27 => .int .i64 l.n
            | 28 => .int .i64 d
            | 29 => .int .i64 g
            | 30 => .int .i64 l.d
            | 31 => .agg #[.int .i64 l.n, .int .i64 l.d]
            | _ => undef)
          (fun k v => match k with
            | 0 => v = .agg #[.int .i64 l.n, .int .i64 l.d]
            | 1 => v = .pointer (some ⟨w.heap.size + 1, 0, none⟩)
            | 2 => v = .int .i64 l.n
            | 3 => v = .int .i64 l.n.natAbs
            | 4 => v = .bool true
            | 5 => v = .bool true
            | 6 => v = .pointer (some ⟨w.heap.size + 1, 1, none⟩)
            | 7 => v = .int .i64 l.d
            | 8 => v = .bool (decide (l.d ≤ 999999))
            | 9 => v = .bool (decide (l.d ≤ 999999))
            | 11 => v = .bool (decide (l.d ≤ 999999))
            | _ => True)
          (fun b u w' => Hid (w'.heap[w.heap.size]? = some (.cells (if b 10 = true then #[.int .i64 l.n, .int .i64 l.d] else #[.int .i64 0, .int .i64 0]) 90 (0, 0)) ∧ w'.heap[w.heap.size + 1]? = some (.cells #[.int .i64 l.n, .int .i64 l.d] 90 (0, 0)) ∧ Below w.heap.size w w'))
          rfl (by kernel_rfl) (by kernel_rfl) (by kernel_rfl) hW0 ?_ ?_
        · intro i o b u w' ho hbi hall hU hW K hK
          have hA : actOf 42 u = ⟨#[u 0, u 1, u 2, u 3, u 4, u 5, u 6, u 7, u 8, u 9, u 10, u 11, u 12, u 13, u 14, u 15, u 16, u 17, u 18, u 19, u 20, u 21, u 22, u 23, u 24, u 25, u 26, u 27, u 28, u 29, u 30, u 31, u 32, u 33, u 34, u 35, u 36, u 37, u 38, u 39, u 40, u 41], []⟩ := rfl
          rw [hA] at hK ⊢
          have c4 : u 4 = .pointer (some ⟨w.heap.size, 0, none⟩) := hU.oldB 4 (by kernel_rfl)
          have c9 : u 9 = .pointer (some ⟨w.heap.size + 1, 0, none⟩) := hU.oldB 9 (by kernel_rfl)
          have got := hU.got
          clear hU hA hW0
          obtain ⟨hz, hf, hb⟩ := hW.out
          obtain ⟨y0, y1, _, _⟩ := two_cells hf
          have HKK := hidMk hK
          have HW := hidMk hW.out
          clear hK hf hW
          rcases i with _ | _ | _ | _ | _ | _ | _ | _ | _ | _ | _ | _ | i
          · cases ho
            clear hz
            go_simp
            exact HKK.out _ _ _ (by rw [c4, c9]; rfl) (fun _ => rfl) HW.out
          · cases ho
            clear hz
            go_simp
            exact HKK.out _ _ _ (by rw [c4, c9]; rfl) (fun _ => rfl) HW.out
          · cases ho
            have g33 : u 33 = .pointer (some ⟨w.heap.size + 1, 0, none⟩) := got 1 33 rfl (hall ⟨1, .data⟩ (by simp) rfl)
            clear hz
            go_simp
            exact HKK.out _ _ _ (by rw [c4, c9, g33]; rfl) (fun _ => rfl) HW.out
          · cases ho
            have g34 : u 34 = .int .i64 l.n := got 2 34 rfl (hall ⟨2, .data⟩ (by simp) rfl)
            clear hz
            go_simp
            refine (HA.out _).mono ?_
            rintro e w2 ⟨rfl, rfl⟩
            exact HKK.out _ _ _ (by rw [c4, c9, g34]; rfl) (fun _ => rfl) HW.out
          · cases ho
            have g35 : u 35 = .int .i64 l.n.natAbs := got 3 35 rfl (hall ⟨3, .data⟩ (by simp) rfl)
            clear hz
            go_simp
            exact HKK.out (.bool true) _ _ (by rw [c4, c9, g35]; rfl) (fun _ => rfl) HW.out
          · cases ho
            have g36 : u 36 = .bool true := got 4 36 rfl (hall ⟨4, .data⟩ (by simp) rfl)
            clear hz
            go_simp
            exact HKK.out _ _ _ (by rw [c4, c9, g36]; rfl) (fun _ => rfl) HW.out
          · cases ho
            have g37 : u 37 = .bool true := got 5 37 rfl (hall ⟨5, .guard⟩ (by simp) rfl)
            clear hz
            go_simp
            exact HKK.out _ _ _ (by rw [c4, c9, g37]; rfl) (fun _ => rfl) HW.out
          · cases ho
            have g38 : u 38 = .pointer (some ⟨w.heap.size + 1, 1, none⟩) := got 6 38 rfl (hall ⟨6, .data⟩ (by simp) rfl)
            have g37 : u 37 = .bool true := got 5 37 rfl (hall ⟨5, .guard⟩ (by simp) rfl)
            clear hz
            go_simp
            exact HKK.out _ _ _ (by rw [c4, c9, g38, g37]; rfl) (fun _ => rfl) HW.out
          · cases ho
            have g39 : u 39 = .int .i64 l.d := got 7 39 rfl (hall ⟨7, .data⟩ (by simp) rfl)
            have g37 : u 37 = .bool true := got 5 37 rfl (hall ⟨5, .guard⟩ (by simp) rfl)
            clear hz
            go_simp
            exact HKK.out _ _ _ (by rw [c4, c9, g39, g37]; rfl) (fun _ => rfl) HW.out
          · cases ho
            have g37 : u 37 = .bool true := got 5 37 rfl (hall ⟨5, .data⟩ (by simp) rfl)
            have g40 : u 40 = .bool (decide (l.d ≤ 999999)) := got 8 40 rfl (hall ⟨8, .data⟩ (by simp) rfl)
            clear hz
            go_simp
            exact HKK.out _ _ _ (by rw [c4, c9, g37, g40]; rfl) (fun _ => rfl) HW.out
          · cases ho
            have g32 : u 32 = .agg #[.int .i64 l.n, .int .i64 l.d] := got 0 32 rfl (hall ⟨0, .data⟩ (by simp) rfl)
            rw [if_neg (by rw [hbi]; decide)] at hz
            obtain ⟨z0, z1, fz0, fz1⟩ := two_cells hz
            have HZ := hidMk hz
            clear hz
            go_simp
            refine HKK.out undef _ _ (by rw [c4, c9, g32]; rfl) (fun h => by cases h) ⟨?_, ?_, ?_⟩
            · rw [if_pos (by simp [upB])]; exact two_set HZ.out _ _
            · rw [Below.heap_setCell _ _ _ _ (by simp), Below.heap_setCell _ _ _ _ (by simp)]; exact HW.out.2.1
            · exact (HW.out.2.2.setCell (p := ⟨w.heap.size, 0, none⟩) (Nat.le_refl _) _).setCell (p := ⟨w.heap.size, 1, none⟩) (Nat.le_refl _) _
          · cases ho
            have g41 : u 41 = .bool (decide (l.d ≤ 999999)) := got 9 41 rfl (hall ⟨9, .data⟩ (by simp) rfl)
            clear hz
            go_simp
            exact HKK.out _ _ _ (by rw [c4, c9, g41]; rfl) (fun _ => rfl) HW.out
          · simp at ho
        · intro b1 u1 w1 hb1 hU1 hW1
          obtain ⟨hz, _, hb⟩ := hW1.out
          rw [if_pos (hb1 10 (by decide))] at hz
          obtain ⟨z0, z1, _, _⟩ := two_cells hz
          have k4 : u1 4 = .pointer (some ⟨w.heap.size, 0, none⟩) := hU1.oldB 4 (by kernel_rfl)
          have k5 : u1 5 = .bool (decide (l.d ≤ 999999)) := hU1.got 11 5 rfl (hb1 11 (by decide))
          have hA1 : actOf 42 u1 = ⟨#[u1 0, u1 1, u1 2, u1 3, u1 4, u1 5, u1 6, u1 7, u1 8, u1 9, u1 10, u1 11, u1 12, u1 13, u1 14, u1 15, u1 16, u1 17, u1 18, u1 19, u1 20, u1 21, u1 22, u1 23, u1 24, u1 25, u1 26, u1 27, u1 28, u1 29, u1 30, u1 31, u1 32, u1 33, u1 34, u1 35, u1 36, u1 37, u1 38, u1 39, u1 40, u1 41], []⟩ := rfl
          rw [hA1, k4, k5]
          have HBD := hidMk hbd
          clear hA1 k4 k5 hW1 hU1 hb1 hz HA hW0 hbd hbn
          go_wp2_with fail
          refine bodyPost_ret (v := .tuple #[.agg #[.int .i64 l.n, .int .i64 l.d], .bool (decide (l.d ≤ 999999))]) (by simp [results, Tryz.results61, go_sem, z0, z1]) rfl ?_
          rw [HV.out, HB.out, HBD.out]
          exact ⟨rfl, hb⟩
      · have hbd : decide ((l.n.natAbs : Int) ≤ 999999) = false := by simpa using hbn
        refine region_inv (nt := 42)
          (fun s => match s with
            | 0 => .int .i64 n
            | 1 => .int .i64 d
            | 4 => .pointer (some ⟨w.heap.size, 0, none⟩)
            | 5 => .bool false
            | 6 => .int .i64 g
            | 7 => .int .i64 0
            | 8 => u8
            | 9 => .pointer (some ⟨w.heap.size + 1, 0, none⟩)
            | 10 => .int .i64 n
            | 11 => .int .i64 n.natAbs
            | 12 => .int .i64 d
            | 13 => .int .i64 d.natAbs
            | 14 => .int .i64 0
            | 15 => .bool false
            | 16 => u16
            | 17 => u17
            | 18 => u18
            | 19 => u19
            | 20 => u20
            | 21 => .int .i64 d
            | 22 => .bool false
            | 25 => .int .i64 n
            | 26 => .int .i64 g
            | 27 => .int .i64 l.n
            | 28 => .int .i64 d
            | 29 => .int .i64 g
            | 30 => .int .i64 l.d
            | 31 => .agg #[.int .i64 l.n, .int .i64 l.d]
            | _ => undef)
          (fun k v => match k with
            | 0 => v = .agg #[.int .i64 l.n, .int .i64 l.d]
            | 1 => v = .pointer (some ⟨w.heap.size + 1, 0, none⟩)
            | 2 => v = .int .i64 l.n
            | 3 => v = .int .i64 l.n.natAbs
            | 4 => v = .bool false
            | 5 => v = .bool false
            | 6 => v = undef
            | 7 => v = undef
            | 8 => v = undef
            | 9 => v = .bool false
            | 11 => v = .bool false
            | _ => True)
          (fun b u w' => Hid (w'.heap[w.heap.size]? = some (.cells (if b 10 = true then #[.int .i64 l.n, .int .i64 l.d] else #[.int .i64 0, .int .i64 0]) 90 (0, 0)) ∧ w'.heap[w.heap.size + 1]? = some (.cells #[.int .i64 l.n, .int .i64 l.d] 90 (0, 0)) ∧ Below w.heap.size w w'))
          rfl (by kernel_rfl) (by kernel_rfl) (by kernel_rfl) hW0 ?_ ?_
        · intro i o b u w' ho hbi hall hU hW K hK
          have hA : actOf 42 u = ⟨#[u 0, u 1, u 2, u 3, u 4, u 5, u 6, u 7, u 8, u 9, u 10, u 11, u 12, u 13, u 14, u 15, u 16, u 17, u 18, u 19, u 20, u 21, u 22, u 23, u 24, u 25, u 26, u 27, u 28, u 29, u 30, u 31, u 32, u 33, u 34, u 35, u 36, u 37, u 38, u 39, u 40, u 41], []⟩ := rfl
          rw [hA] at hK ⊢
          have c4 : u 4 = .pointer (some ⟨w.heap.size, 0, none⟩) := hU.oldB 4 (by kernel_rfl)
          have c9 : u 9 = .pointer (some ⟨w.heap.size + 1, 0, none⟩) := hU.oldB 9 (by kernel_rfl)
          have got := hU.got
          clear hU hA hW0
          obtain ⟨hz, hf, hb⟩ := hW.out
          obtain ⟨y0, y1, _, _⟩ := two_cells hf
          have HKK := hidMk hK
          have HW := hidMk hW.out
          clear hK hf hW
          rcases i with _ | _ | _ | _ | _ | _ | _ | _ | _ | _ | _ | _ | i
          · cases ho
            clear hz
            go_simp
            exact HKK.out _ _ _ (by rw [c4, c9]; rfl) (fun _ => rfl) HW.out
          · cases ho
            clear hz
            go_simp
            exact HKK.out _ _ _ (by rw [c4, c9]; rfl) (fun _ => rfl) HW.out
          · cases ho
            have g33 : u 33 = .pointer (some ⟨w.heap.size + 1, 0, none⟩) := got 1 33 rfl (hall ⟨1, .data⟩ (by simp) rfl)
            clear hz
            go_simp
            exact HKK.out _ _ _ (by rw [c4, c9, g33]; rfl) (fun _ => rfl) HW.out
          · cases ho
            have g34 : u 34 = .int .i64 l.n := got 2 34 rfl (hall ⟨2, .data⟩ (by simp) rfl)
            clear hz
            go_simp
            refine (HA.out _).mono ?_
            rintro e w2 ⟨rfl, rfl⟩
            exact HKK.out _ _ _ (by rw [c4, c9, g34]; rfl) (fun _ => rfl) HW.out
          · cases ho
            have g35 : u 35 = .int .i64 l.n.natAbs := got 3 35 rfl (hall ⟨3, .data⟩ (by simp) rfl)
            clear hz
            go_simp
            exact HKK.out (.bool false) _ _ (by rw [c4, c9, g35]; rfl) (fun _ => rfl) HW.out
          · cases ho
            have g36 : u 36 = .bool false := got 4 36 rfl (hall ⟨4, .data⟩ (by simp) rfl)
            clear hz
            go_simp
            exact HKK.out _ _ _ (by rw [c4, c9, g36]; rfl) (fun _ => rfl) HW.out
          · cases ho
            have g37 : u 37 = .bool false := got 5 37 rfl (hall ⟨5, .guard⟩ (by simp) rfl)
            clear hz
            go_simp
            exact HKK.out undef _ _ (by rw [c4, c9, g37]; rfl) (fun _ => rfl) HW.out
          · cases ho
            have g38 : u 38 = undef := got 6 38 rfl (hall ⟨6, .data⟩ (by simp) rfl)
            have g37 : u 37 = .bool false := got 5 37 rfl (hall ⟨5, .guard⟩ (by simp) rfl)
            clear hz
            go_simp
            exact HKK.out undef _ _ (by rw [c4, c9, g38, g37]; rfl) (fun _ => rfl) HW.out
          · cases ho
            have g39 : u 39 = undef := got 7 39 rfl (hall ⟨7, .data⟩ (by simp) rfl)
            have g37 : u 37 = .bool false := got 5 37 rfl (hall ⟨5, .guard⟩ (by simp) rfl)
            clear hz
            go_simp
            exact HKK.out undef _ _ (by rw [c4, c9, g39, g37]; rfl) (fun _ => rfl) HW.out
          · cases ho
            have g37 : u 37 = .bool false := got 5 37 rfl (hall ⟨5, .data⟩ (by simp) rfl)
            have g40 : u 40 = undef := got 8 40 rfl (hall ⟨8, .data⟩ (by simp) rfl)
            clear hz
            go_simp
            exact HKK.out _ _ _ (by rw [c4, c9, g37, g40]; rfl) (fun _ => rfl) HW.out
          · cases ho
            have g32 : u 32 = .agg #[.int .i64 l.n, .int .i64 l.d] := got 0 32 rfl (hall ⟨0, .data⟩ (by simp) rfl)
            rw [if_neg (by rw [hbi]; decide)] at hz
            obtain ⟨z0, z1, fz0, fz1⟩ := two_cells hz
            have HZ := hidMk hz
            clear hz
            go_simp
            refine HKK.out undef _ _ (by rw [c4, c9, g32]; rfl) (fun h => by cases h) ⟨?_, ?_, ?_⟩
            · rw [if_pos (by simp [upB])]; exact two_set HZ.out _ _
            · rw [Below.heap_setCell _ _ _ _ (by simp), Below.heap_setCell _ _ _ _ (by simp)]; exact HW.out.2.1
            · exact (HW.out.2.2.setCell (p := ⟨w.heap.size, 0, none⟩) (Nat.le_refl _) _).setCell (p := ⟨w.heap.size, 1, none⟩) (Nat.le_refl _) _
          · cases ho
            have g41 : u 41 = .bool false := got 9 41 rfl (hall ⟨9, .data⟩ (by simp) rfl)
            clear hz
            go_simp
            exact HKK.out _ _ _ (by rw [c4, c9, g41]; rfl) (fun _ => rfl) HW.out
          · simp at ho
        · intro b1 u1 w1 hb1 hU1 hW1
          obtain ⟨hz, _, hb⟩ := hW1.out
          rw [if_pos (hb1 10 (by decide))] at hz
          obtain ⟨z0, z1, _, _⟩ := two_cells hz
          have k4 : u1 4 = .pointer (some ⟨w.heap.size, 0, none⟩) := hU1.oldB 4 (by kernel_rfl)
          have k5 : u1 5 = .bool false := hU1.got 11 5 rfl (hb1 11 (by decide))
          have hA1 : actOf 42 u1 = ⟨#[u1 0, u1 1, u1 2, u1 3, u1 4, u1 5, u1 6, u1 7, u1 8, u1 9, u1 10, u1 11, u1 12, u1 13, u1 14, u1 15, u1 16, u1 17, u1 18, u1 19, u1 20, u1 21, u1 22, u1 23, u1 24, u1 25, u1 26, u1 27, u1 28, u1 29, u1 30, u1 31, u1 32, u1 33, u1 34, u1 35, u1 36, u1 37, u1 38, u1 39, u1 40, u1 41], []⟩ := rfl
          rw [hA1, k4, k5]
          have HBD := hidMk hbd
          clear hA1 k4 k5 hW1 hU1 hb1 hz HA hW0 hbd hbn
          go_wp2_with fail
          refine bodyPost_ret (v := .tuple #[.agg #[.int .i64 l.n, .int .i64 l.d], .bool false]) (by simp [results, Tryz.results61, go_sem, z0, z1]) rfl ?_
          rw [HV.out, HB.out, HBD.out]
          exact ⟨rfl, hb⟩
    · have q1 : (0 : Int) < (b : Int) := by omega
      have q2 : ¬ (b : Int) = 0 := by omega
      go_wp2_with fail
      go_roundg (a % b)
      case measure => have := Nat.mod_lt a (show 0 < b by omega); have := hg.out; omega
      case rel =>
        refine ⟨b, a % b, rfl, rfl, ?_, hb, ?_, rfl, rfl⟩
        · show Nat.gcd b (a % b) = _
          rw [gcd_step']; exact HI.out
        · have := Nat.mod_le a b; omega
end Go.Proofs.YtodabmkcihafhaaGreatDoor

/- The document's way: made, plus, less, times. -/
namespace Go.Proofs.YtodabmkcihafhaaGreatDoor
open Go.RowKit
set_option linter.unusedVariables false

/-! ### The way -/
/-- The document's way, in block b: whether one was too big. -/
def WySt (b : Nat) (fl : Bool) (w : World) : Prop := w.heap[b]? = some (.cells #[.bool fl] 205 (0, 0))
theorem WySt.cells {b : Nat} {fl : Bool} {w : World} (h : WySt b fl w) : w.cell? ⟨b, 0, none⟩ = some (.bool fl) ∧ w.frozen? ⟨b, 0, none⟩ = false := by
  unfold WySt at h
  simp [World.cell?, World.frozen?, h]
theorem WySt.set {b : Nat} {fl : Bool} {w : World} (h : WySt b fl w) (x : Bool) : WySt b x (w.setCell ⟨b, 0, none⟩ (.bool x)) := by
  unfold WySt at *
  simp [World.setCell, Array.getElem?_modify, h]
theorem WySt.lt {b : Nat} {fl : Bool} {w : World} (h : WySt b fl w) : b < w.heap.size := (Array.getElem?_eq_some_iff.1 h).1
theorem WySt.below {b : Nat} {fl : Bool} {w w' : World} (h : WySt b fl w) (g : Below w.heap.size w w') : WySt b fl w' := by
  unfold WySt; rw [g.block _ h.lt]; exact h

set_option maxHeartbeats 1000000 in
theorem made_any (b : Nat) (fl : Bool) (n d : Int) (w : World) (h1 : -4000000000000 ≤ n) (h2 : n ≤ 4000000000000) (h3 : 0 < d) (h4 : d ≤ 4000000000000) (h : WySt b fl w) :
    Calls Tryz.prog 130 #[.pointer (some ⟨b, 0, none⟩), .int .i64 n, .int .i64 d] w fun e w' => e = .returned (.agg #[.int .i64 (mkF n d).n, .int .i64 (mkF n d).d]) ∧ WySt b (fl || mkB n d) w' ∧ w.grownBy w' (some b) := by
  have hlt := h.lt
  have hc := rlow_any n d (w.alloc (.cells #[.int .i64 0, .int .i64 0] 90)) h1 h2 h3 h4
  unfold rlowV at hc
  have HF : Hid (mkF n d = if mkB n d then ⟨0, 1⟩ else lowP n d) := rfl
  generalize mkF n d = F at *
  generalize lowP n d = l at *
  generalize mkB n d = B at *
  have hz0 : (w.alloc (.cells #[.int .i64 0, .int .i64 0] 90)).heap[w.heap.size]? = some (.cells #[.int .i64 0, .int .i64 0] 90 (0, 0)) := heap_alloc_new w _
  have h0 := h.below (fr_below w (.cells #[.int .i64 0, .int .i64 0] 90))
  have HH := hidMk h0
  have HZ := hidMk hz0
  clear h h0 hz0
  go_enter Tryz.func130, Tryz.ntmps130
  go_wp2_with fail
  refine hc.mono ?_
  rintro e w1 ⟨rfl, hb1⟩
  have hsz : w.heap.size + 1 ≤ w1.heap.size := by have := hb1.size; simp at this; omega
  have g1 : w.grownBy w1 (some b) := gb_below (gb_alloc (gb_refl w _) _) hb1
  have hz1 := (hb1.block _ (by simp)).trans HZ.out
  have hr1 := HH.out.below hb1
  obtain ⟨z0, z1, fz0, fz1⟩ := two_cells hz1
  obtain ⟨r0, fr0⟩ := hr1.cells
  have z0' := cellA z0
  have z1' := cellA z1
  have r0' := cellA r0
  have fz0' := frozA z0 fz0
  have fz1' := frozA z1 fz1
  have fr0' := frozA r0 fr0
  have HR := hidMk hr1
  have HZ1 := hidMk hz1
  clear hz1 hr1 hc HH HZ hb1
  cases B with
  | true =>
    have e1 : F = ⟨0, 1⟩ := HF.out
    subst e1
    go_wp2_with fail
    refine bp_gen (fun W' => W'.heap[w.heap.size]? = some (.cells #[.int .i64 0, .int .i64 1] 90 (0, 0)) ∧ WySt b true W' ∧ w.grownBy W' (some b)) ⟨two_set (x := .int .i64 0) (y := .int .i64 0) ?_ _ _, ?_, ?_⟩ ?_
    · rw [Below.heap_setCell _ _ _ _ (by simp; omega), Below.heap_alloc _ _ _ (by omega)]
      exact HZ1.out
    · unfold WySt
      rw [Below.heap_setCell _ _ _ _ (by simp; omega), Below.heap_setCell _ _ _ _ (by simp; omega)]
      exact (HR.out.below (fr_below w1 _)).set true
    · exact gb_new (gb_new (gb_set (gb_alloc g1 _) 0 _) (Nat.le_refl _) 0 _) (Nat.le_refl _) 1 _
    · rintro W ⟨hz, hr, hg⟩
      obtain ⟨z0, z1, _, _⟩ := two_cells hz
      try rw [Bool.or_true]
      exact bodyPost_ret (v := .agg #[.int .i64 0, .int .i64 1]) (by simp [results, Tryz.results130, go_sem, z0, z1]) rfl ⟨rfl, hr, hg⟩
  | false =>
    have e1 : F = l := HF.out
    subst e1
    go_wp2_with fail
    refine bp_gen (fun W' => W'.heap[w.heap.size]? = some (.cells #[.int .i64 F.n, .int .i64 F.d] 90 (0, 0)) ∧ WySt b fl W' ∧ w.grownBy W' (some b)) ⟨two_set (x := .int .i64 0) (y := .int .i64 0) ?_ _ _, ?_, ?_⟩ ?_
    · rw [Below.heap_alloc _ _ _ (by omega)]
      exact HZ1.out
    · unfold WySt
      rw [Below.heap_setCell _ _ _ _ (by simp; omega), Below.heap_setCell _ _ _ _ (by simp; omega)]
      exact HR.out.below (fr_below w1 _)
    · exact gb_new (gb_new (gb_alloc g1 _) (Nat.le_refl _) 0 _) (Nat.le_refl _) 1 _
    · rintro W ⟨hz, hr, hg⟩
      obtain ⟨z0, z1, _, _⟩ := two_cells hz
      try rw [Bool.or_false]
      exact bodyPost_ret (v := .agg #[.int .i64 F.n, .int .i64 F.d]) (by simp [results, Tryz.results130, go_sem, z0, z1]) rfl ⟨rfl, hr, hg⟩

set_option maxHeartbeats 1000000 in
theorem rplus_any (b : Nat) (fl : Bool) (x y : Fr) (w : World) (hx : x.Ok) (hy : y.Ok) (h : WySt b fl w) :
    Calls Tryz.prog 90 #[.pointer (some ⟨b, 0, none⟩), .agg #[.int .i64 x.n, .int .i64 x.d], .agg #[.int .i64 y.n, .int .i64 y.d]] w fun e w' => e = .returned (.agg #[.int .i64 (plF x y).n, .int .i64 (plF x y).d]) ∧ WySt b (fl || plB x y) w' ∧ w.grownBy w' (some b) := by
  have m1 := hx.mul_nd hy
  have m2 := hy.mul_nd hx
  have m3 := hx.mul_d hy
  have c := fun W h => made_any b fl (x.n * y.d + y.n * x.d) (x.d * y.d) W (by omega) (by omega) m3.1 (by omega) h
  show Calls _ _ _ _ fun e w' => e = .returned (.agg #[.int .i64 (mkF (x.n * y.d + y.n * x.d) (x.d * y.d)).n, .int .i64 (mkF (x.n * y.d + y.n * x.d) (x.d * y.d)).d]) ∧ WySt b (fl || mkB (x.n * y.d + y.n * x.d) (x.d * y.d)) w' ∧ w.grownBy w' (some b)
  generalize mkF (x.n * y.d + y.n * x.d) (x.d * y.d) = F at *
  generalize mkB (x.n * y.d + y.n * x.d) (x.d * y.d) = B at *
  have hlt := h.lt
  have hh : Hid (WySt b fl w) := h
  have C : Hid (∀ (W : World), WySt b fl W → Calls Tryz.prog 130 #[.pointer (some ⟨b, 0, none⟩), .int .i64 (x.n * y.d + y.n * x.d), .int .i64 (x.d * y.d)] W fun e w' => e = .returned (.agg #[.int .i64 F.n, .int .i64 F.d]) ∧ WySt b (fl || B) w' ∧ W.grownBy w' (some b)) := c
  clear h hx hy c
  go_enter Tryz.func90, Tryz.ntmps90
  go_wp2_with fail
  refine (C.out _ ?_).mono ?_
  · unfold WySt
    rw [Below.heap_alloc _ _ _ (by simp; omega), Below.heap_alloc _ _ _ (by simp; omega), Below.heap_alloc _ _ _ (by omega)]
    exact hh.out
  rintro e w1 ⟨rfl, hr1, hg1⟩
  have hz1 : w1.heap[w.heap.size + 1 + 1]? = some (.cells #[.int .i64 0, .int .i64 0] 90 (0, 0)) := by
    rw [hg1.block _ (by simp) (by simp; omega)]
    have := heap_alloc_new ((w.alloc (.cells #[.int .i64 x.n, .int .i64 x.d] 90)).alloc (.cells #[.int .i64 y.n, .int .i64 y.d] 90)) (.cells #[.int .i64 0, .int .i64 0] 90)
    rw [show ((w.alloc (.cells #[.int .i64 x.n, .int .i64 x.d] 90)).alloc (.cells #[.int .i64 y.n, .int .i64 y.d] 90)).heap.size = w.heap.size + 1 + 1 by simp] at this
    exact this
  have hg0 : w.grownBy w1 (some b) := gb_trans (gb_alloc (gb_alloc (gb_alloc (gb_refl w _) _) _) _) hg1
  obtain ⟨z0, z1, fz0, fz1⟩ := two_cells hz1
  clear hz1 hg1 C hh
  go_wp2_with fail
  refine bodyPost_ret (v := .agg #[.int .i64 F.n, .int .i64 F.d]) (by simp [results, Tryz.results90, go_sem, z0, z1]) rfl ?_
  refine ⟨rfl, ?_, gb_new (gb_new hg0 (by omega) 0 _) (by omega) 1 _⟩
  unfold WySt
  rw [Below.heap_setCell _ _ _ _ (by simp; omega), Below.heap_setCell _ _ _ _ (by simp; omega)]
  exact hr1

set_option maxHeartbeats 1000000 in
theorem rtimes_any (b : Nat) (fl : Bool) (x y : Fr) (w : World) (hx : x.Ok) (hy : y.Ok) (h : WySt b fl w) :
    Calls Tryz.prog 131 #[.pointer (some ⟨b, 0, none⟩), .agg #[.int .i64 x.n, .int .i64 x.d], .agg #[.int .i64 y.n, .int .i64 y.d]] w fun e w' => e = .returned (.agg #[.int .i64 (tmF x y).n, .int .i64 (tmF x y).d]) ∧ WySt b (fl || tmB x y) w' ∧ w.grownBy w' (some b) := by
  have m1 := hx.mul_n hy
  have m3 := hx.mul_d hy
  have c := fun W h => made_any b fl (x.n * y.n) (x.d * y.d) W (by omega) (by omega) m3.1 (by omega) h
  show Calls _ _ _ _ fun e w' => e = .returned (.agg #[.int .i64 (mkF (x.n * y.n) (x.d * y.d)).n, .int .i64 (mkF (x.n * y.n) (x.d * y.d)).d]) ∧ WySt b (fl || mkB (x.n * y.n) (x.d * y.d)) w' ∧ w.grownBy w' (some b)
  generalize mkF (x.n * y.n) (x.d * y.d) = F at *
  generalize mkB (x.n * y.n) (x.d * y.d) = B at *
  have hlt := h.lt
  have hh : Hid (WySt b fl w) := h
  have C : Hid (∀ (W : World), WySt b fl W → Calls Tryz.prog 130 #[.pointer (some ⟨b, 0, none⟩), .int .i64 (x.n * y.n), .int .i64 (x.d * y.d)] W fun e w' => e = .returned (.agg #[.int .i64 F.n, .int .i64 F.d]) ∧ WySt b (fl || B) w' ∧ W.grownBy w' (some b)) := c
  clear h hx hy c
  go_enter Tryz.func131, Tryz.ntmps131
  go_wp2_with fail
  refine (C.out _ ?_).mono ?_
  · unfold WySt
    rw [Below.heap_alloc _ _ _ (by simp; omega), Below.heap_alloc _ _ _ (by simp; omega), Below.heap_alloc _ _ _ (by omega)]
    exact hh.out
  rintro e w1 ⟨rfl, hr1, hg1⟩
  have hz1 : w1.heap[w.heap.size + 1 + 1]? = some (.cells #[.int .i64 0, .int .i64 0] 90 (0, 0)) := by
    rw [hg1.block _ (by simp) (by simp; omega)]
    have := heap_alloc_new ((w.alloc (.cells #[.int .i64 x.n, .int .i64 x.d] 90)).alloc (.cells #[.int .i64 y.n, .int .i64 y.d] 90)) (.cells #[.int .i64 0, .int .i64 0] 90)
    rw [show ((w.alloc (.cells #[.int .i64 x.n, .int .i64 x.d] 90)).alloc (.cells #[.int .i64 y.n, .int .i64 y.d] 90)).heap.size = w.heap.size + 1 + 1 by simp] at this
    exact this
  have hg0 : w.grownBy w1 (some b) := gb_trans (gb_alloc (gb_alloc (gb_alloc (gb_refl w _) _) _) _) hg1
  obtain ⟨z0, z1, fz0, fz1⟩ := two_cells hz1
  clear hz1 hg1 C hh
  go_wp2_with fail
  refine bodyPost_ret (v := .agg #[.int .i64 F.n, .int .i64 F.d]) (by simp [results, Tryz.results131, go_sem, z0, z1]) rfl ?_
  refine ⟨rfl, ?_, gb_new (gb_new hg0 (by omega) 0 _) (by omega) 1 _⟩
  unfold WySt
  rw [Below.heap_setCell _ _ _ _ (by simp; omega), Below.heap_setCell _ _ _ _ (by simp; omega)]
  exact hr1

set_option maxHeartbeats 1000000 in
theorem rless_any (b : Nat) (fl : Bool) (x y : Fr) (w : World) (hx : x.Ok) (hy : y.Ok) (h : WySt b fl w) :
    Calls Tryz.prog 91 #[.pointer (some ⟨b, 0, none⟩), .agg #[.int .i64 x.n, .int .i64 x.d], .agg #[.int .i64 y.n, .int .i64 y.d]] w fun e w' => e = .returned (.agg #[.int .i64 (plF x y.neg).n, .int .i64 (plF x y.neg).d]) ∧ WySt b (fl || plB x y.neg) w' ∧ w.grownBy w' (some b) := by
  have m1 := hx.mul_nd hy
  have m2 := hy.mul_nd hx
  have m3 := hx.mul_d hy
  have c := fun W h => made_any b fl (x.n * y.d - y.n * x.d) (x.d * y.d) W (by omega) (by omega) m3.1 (by omega) h
  have hE : x.n * y.neg.d + y.neg.n * x.d = x.n * y.d - y.n * x.d := by
    show x.n * y.d + -y.n * x.d = _
    rw [Int.neg_mul]
    omega
  have hF : plF x y.neg = mkF (x.n * y.d - y.n * x.d) (x.d * y.d) := by unfold plF; rw [hE]; rfl
  have hB : plB x y.neg = mkB (x.n * y.d - y.n * x.d) (x.d * y.d) := by unfold plB; rw [hE]; rfl
  rw [hF, hB]
  clear hE hF hB
  generalize mkF (x.n * y.d - y.n * x.d) (x.d * y.d) = F at *
  generalize mkB (x.n * y.d - y.n * x.d) (x.d * y.d) = B at *
  have hlt := h.lt
  have hh : Hid (WySt b fl w) := h
  have C : Hid (∀ (W : World), WySt b fl W → Calls Tryz.prog 130 #[.pointer (some ⟨b, 0, none⟩), .int .i64 (x.n * y.d - y.n * x.d), .int .i64 (x.d * y.d)] W fun e w' => e = .returned (.agg #[.int .i64 F.n, .int .i64 F.d]) ∧ WySt b (fl || B) w' ∧ W.grownBy w' (some b)) := c
  clear h hx hy c
  go_enter Tryz.func91, Tryz.ntmps91
  go_wp2_with fail
  refine (C.out _ ?_).mono ?_
  · unfold WySt
    rw [Below.heap_alloc _ _ _ (by simp; omega), Below.heap_alloc _ _ _ (by simp; omega), Below.heap_alloc _ _ _ (by omega)]
    exact hh.out
  rintro e w1 ⟨rfl, hr1, hg1⟩
  have hz1 : w1.heap[w.heap.size + 1 + 1]? = some (.cells #[.int .i64 0, .int .i64 0] 90 (0, 0)) := by
    rw [hg1.block _ (by simp) (by simp; omega)]
    have := heap_alloc_new ((w.alloc (.cells #[.int .i64 x.n, .int .i64 x.d] 90)).alloc (.cells #[.int .i64 y.n, .int .i64 y.d] 90)) (.cells #[.int .i64 0, .int .i64 0] 90)
    rw [show ((w.alloc (.cells #[.int .i64 x.n, .int .i64 x.d] 90)).alloc (.cells #[.int .i64 y.n, .int .i64 y.d] 90)).heap.size = w.heap.size + 1 + 1 by simp] at this
    exact this
  have hg0 : w.grownBy w1 (some b) := gb_trans (gb_alloc (gb_alloc (gb_alloc (gb_refl w _) _) _) _) hg1
  obtain ⟨z0, z1, fz0, fz1⟩ := two_cells hz1
  clear hz1 hg1 C hh
  go_wp2_with fail
  refine bodyPost_ret (v := .agg #[.int .i64 F.n, .int .i64 F.d]) (by simp [results, Tryz.results91, go_sem, z0, z1]) rfl ?_
  refine ⟨rfl, ?_, gb_new (gb_new hg0 (by omega) 0 _) (by omega) 1 _⟩
  unfold WySt
  rw [Below.heap_setCell _ _ _ _ (by simp; omega), Below.heap_setCell _ _ _ _ (by simp; omega)]
  exact hr1
end Go.Proofs.YtodabmkcihafhaaGreatDoor

/- The document's product and quotient. -/
namespace Go.Proofs.YtodabmkcihafhaaGreatDoor
open Go.RowKit
set_option linter.unusedVariables false

/-- The blocks of a way's call on two numbers: they, the result; the way (block b, below); fractions in blocks of their own. -/
structure Wek (w0 : World) (b : Nat) (x y : Num) (ex : List (Nat × Fr)) (fl : Bool) (w : World) : Prop where
  hx : w.heap[w0.heap.size]? = some (.cells #[.int .i64 x.re.n, .int .i64 x.re.d, .int .i64 x.im.n, .int .i64 x.im.d] 92 (0, 0))
  hy : w.heap[w0.heap.size + 1]? = some (.cells #[.int .i64 y.re.n, .int .i64 y.re.d, .int .i64 y.im.n, .int .i64 y.im.d] 92 (0, 0))
  hz : w.heap[w0.heap.size + 1 + 1]? = some (.cells #[.int .i64 0, .int .i64 0, .int .i64 0, .int .i64 0] 92 (0, 0))
  hr : WySt b fl w
  hlt : b < w0.heap.size
  hg : w0.grownBy w (some b)
  hex : ∀ p ∈ ex, w0.heap.size ≤ p.1 ∧ w.heap[p.1]? = some (.cells #[.int .i64 p.2.n, .int .i64 p.2.d] 90 (0, 0))
theorem Wek.lt {w0 w : World} {b : Nat} {x y : Num} {ex : List (Nat × Fr)} {fl : Bool} (h : Wek w0 b x y ex fl w) : w0.heap.size + 1 + 1 < w.heap.size := (Array.getElem?_eq_some_iff.1 h.hz).1
theorem Wek.grown {w0 w w' : World} {b : Nat} {x y : Num} {ex : List (Nat × Fr)} {fl fl' : Bool} (h : Wek w0 b x y ex fl w) (g : w.grownBy w' (some b)) (hr : WySt b fl' w') : Wek w0 b x y ex fl' w' := by
  have l := h.lt
  have r := h.hlt
  refine ⟨?_, ?_, ?_, hr, r, gb_trans h.hg g, fun p hp => ⟨(h.hex p hp).1, ?_⟩⟩
  · rw [g.block _ (by omega) (by simp; omega)]; exact h.hx
  · rw [g.block _ (by omega) (by simp; omega)]; exact h.hy
  · rw [g.block _ (by omega) (by simp; omega)]; exact h.hz
  · have q := h.hex p hp
    rw [g.block _ (Array.getElem?_eq_some_iff.1 q.2).1 (by simp; omega)]; exact q.2
theorem Wek.push {w0 w : World} {b : Nat} {x y : Num} {ex : List (Nat × Fr)} {fl : Bool} (h : Wek w0 b x y ex fl w) (f : Fr) : Wek w0 b x y ((w.heap.size, f) :: ex) fl (w.alloc (.cells #[.int .i64 f.n, .int .i64 f.d] 90)) := by
  have l := h.lt
  have g := h.grown (World.grownBy_alloc w (.cells #[.int .i64 f.n, .int .i64 f.d] 90) (some b)) (h.hr.below (fr_below w _))
  refine ⟨g.hx, g.hy, g.hz, g.hr, g.hlt, g.hg, fun p hp => ?_⟩
  rcases List.mem_cons.1 hp with rfl | hp
  · exact ⟨by simp; omega, heap_alloc_new w _⟩
  · exact g.hex p hp
theorem Wek.new (w : World) (b : Nat) (fl : Bool) (x y : Num) (h : WySt b fl w) : Wek w b x y [] fl (((w.alloc (.cells #[.int .i64 x.re.n, .int .i64 x.re.d, .int .i64 x.im.n, .int .i64 x.im.d] 92)).alloc (.cells #[.int .i64 y.re.n, .int .i64 y.re.d, .int .i64 y.im.n, .int .i64 y.im.d] 92)).alloc (.cells #[.int .i64 0, .int .i64 0, .int .i64 0, .int .i64 0] 92)) := by
  refine ⟨?_, ?_, ?_, ?_, h.lt, gb_alloc (gb_alloc (gb_alloc (gb_refl w _) _) _) _, fun p hp => by cases hp⟩
  · rw [Below.heap_alloc _ _ _ (by simp; omega), Below.heap_alloc _ _ _ (by simp)]
    exact heap_alloc_new w _
  · rw [Below.heap_alloc _ _ _ (by simp)]
    have := heap_alloc_new (w.alloc (.cells #[.int .i64 x.re.n, .int .i64 x.re.d, .int .i64 x.im.n, .int .i64 x.im.d] 92)) (.cells #[.int .i64 y.re.n, .int .i64 y.re.d, .int .i64 y.im.n, .int .i64 y.im.d] 92)
    simpa using this
  · have := heap_alloc_new ((w.alloc (.cells #[.int .i64 x.re.n, .int .i64 x.re.d, .int .i64 x.im.n, .int .i64 x.im.d] 92)).alloc (.cells #[.int .i64 y.re.n, .int .i64 y.re.d, .int .i64 y.im.n, .int .i64 y.im.d] 92)) (.cells #[.int .i64 0, .int .i64 0, .int .i64 0, .int .i64 0] 92)
    simpa using this
  · exact ((h.below (fr_below w _)).below (fr_below _ _)).below (fr_below _ _)

set_option maxHeartbeats 4000000 in
set_option maxRecDepth 100000 in
theorem rprod_any (b : Nat) (fl : Bool) (x y : Num) (w : World) (hx : x.Ok) (hy : y.Ok) (h : WySt b fl w) :
    Calls Tryz.prog 92 #[.pointer (some ⟨b, 0, none⟩), .agg #[.int .i64 x.re.n, .int .i64 x.re.d, .int .i64 x.im.n, .int .i64 x.im.d], .agg #[.int .i64 y.re.n, .int .i64 y.re.d, .int .i64 y.im.n, .int .i64 y.im.d]] w fun e w' => e = .returned (nV (mulN x y)) ∧ WySt b (fl || mulB x y) w' ∧ w.grownBy w' (some b) := by
  have C1 : Hid (∀ fl W, WySt b fl W → Calls Tryz.prog 131 #[.pointer (some ⟨b, 0, none⟩), .agg #[.int .i64 (x.re).n, .int .i64 (x.re).d], .agg #[.int .i64 (y.re).n, .int .i64 (y.re).d]] W fun e w' => e = .returned (.agg #[.int .i64 (tmF x.re y.re).n, .int .i64 (tmF x.re y.re).d]) ∧ WySt b (fl || tmB x.re y.re) w' ∧ W.grownBy w' (some b)) := fun fl W h => rtimes_any b fl _ _ W hx.1 hy.1 h
  have C2 : Hid (∀ fl W, WySt b fl W → Calls Tryz.prog 131 #[.pointer (some ⟨b, 0, none⟩), .agg #[.int .i64 (x.im).n, .int .i64 (x.im).d], .agg #[.int .i64 (y.im).n, .int .i64 (y.im).d]] W fun e w' => e = .returned (.agg #[.int .i64 (tmF x.im y.im).n, .int .i64 (tmF x.im y.im).d]) ∧ WySt b (fl || tmB x.im y.im) w' ∧ W.grownBy w' (some b)) := fun fl W h => rtimes_any b fl _ _ W hx.2 hy.2 h
  have C4 : Hid (∀ fl W, WySt b fl W → Calls Tryz.prog 131 #[.pointer (some ⟨b, 0, none⟩), .agg #[.int .i64 (x.re).n, .int .i64 (x.re).d], .agg #[.int .i64 (y.im).n, .int .i64 (y.im).d]] W fun e w' => e = .returned (.agg #[.int .i64 (tmF x.re y.im).n, .int .i64 (tmF x.re y.im).d]) ∧ WySt b (fl || tmB x.re y.im) w' ∧ W.grownBy w' (some b)) := fun fl W h => rtimes_any b fl _ _ W hx.1 hy.2 h
  have C5 : Hid (∀ fl W, WySt b fl W → Calls Tryz.prog 131 #[.pointer (some ⟨b, 0, none⟩), .agg #[.int .i64 (x.im).n, .int .i64 (x.im).d], .agg #[.int .i64 (y.re).n, .int .i64 (y.re).d]] W fun e w' => e = .returned (.agg #[.int .i64 (tmF x.im y.re).n, .int .i64 (tmF x.im y.re).d]) ∧ WySt b (fl || tmB x.im y.re) w' ∧ W.grownBy w' (some b)) := fun fl W h => rtimes_any b fl _ _ W hx.2 hy.1 h
  have C3 : Hid (∀ fl W, WySt b fl W → Calls Tryz.prog 91 #[.pointer (some ⟨b, 0, none⟩), .agg #[.int .i64 (tmF x.re y.re).n, .int .i64 (tmF x.re y.re).d], .agg #[.int .i64 (tmF x.im y.im).n, .int .i64 (tmF x.im y.im).d]] W fun e w' => e = .returned (.agg #[.int .i64 (plF (tmF x.re y.re) (tmF x.im y.im).neg).n, .int .i64 (plF (tmF x.re y.re) (tmF x.im y.im).neg).d]) ∧ WySt b (fl || plB (tmF x.re y.re) (tmF x.im y.im).neg) w' ∧ W.grownBy w' (some b)) := fun fl W h => rless_any b fl _ _ W (tmF_ok hx.1 hy.1) (tmF_ok hx.2 hy.2) h
  have C6 : Hid (∀ fl W, WySt b fl W → Calls Tryz.prog 90 #[.pointer (some ⟨b, 0, none⟩), .agg #[.int .i64 (tmF x.re y.im).n, .int .i64 (tmF x.re y.im).d], .agg #[.int .i64 (tmF x.im y.re).n, .int .i64 (tmF x.im y.re).d]] W fun e w' => e = .returned (.agg #[.int .i64 (plF (tmF x.re y.im) (tmF x.im y.re)).n, .int .i64 (plF (tmF x.re y.im) (tmF x.im y.re)).d]) ∧ WySt b (fl || plB (tmF x.re y.im) (tmF x.im y.re)) w' ∧ W.grownBy w' (some b)) := fun fl W h => rplus_any b fl _ _ W (tmF_ok hx.1 hy.2) (tmF_ok hx.2 hy.1) h
  have HN : Hid (nV (mulN x y) = .agg #[.int .i64 (plF (tmF x.re y.re) (tmF x.im y.im).neg).n, .int .i64 (plF (tmF x.re y.re) (tmF x.im y.im).neg).d, .int .i64 (plF (tmF x.re y.im) (tmF x.im y.re)).n, .int .i64 (plF (tmF x.re y.im) (tmF x.im y.re)).d]) := rfl
  have HB : Hid ((fl || mulB x y) = ((((((fl || tmB x.re y.re) || tmB x.im y.im) || tmB x.re y.im) || tmB x.im y.re) || plB (tmF x.re y.re) (tmF x.im y.im).neg) || plB (tmF x.re y.im) (tmF x.im y.re))) := by
    show (fl || mulB x y) = _
    unfold mulB
    cases fl <;> cases tmB x.re y.re <;> cases tmB x.im y.im <;> cases tmB x.re y.im <;> cases tmB x.im y.re <;> cases plB (tmF x.re y.re) (tmF x.im y.im).neg <;> rfl
  generalize nV (mulN x y) = V at *
  generalize (fl || mulB x y) = FB at *
  generalize plF (tmF x.re y.re) (tmF x.im y.im).neg = F3 at *
  generalize plB (tmF x.re y.re) (tmF x.im y.im).neg = B3 at *
  generalize plF (tmF x.re y.im) (tmF x.im y.re) = F6 at *
  generalize plB (tmF x.re y.im) (tmF x.im y.re) = B6 at *
  generalize tmF x.re y.re = F1 at *
  generalize tmF x.im y.im = F2 at *
  generalize tmF x.re y.im = F4 at *
  generalize tmF x.im y.re = F5 at *
  generalize tmB x.re y.re = B1 at *
  generalize tmB x.im y.im = B2 at *
  generalize tmB x.re y.im = B4 at *
  generalize tmB x.im y.re = B5 at *
  have H := hidMk (Wek.new w b fl x y h)
  clear hx hy h
  go_enter Tryz.func92, Tryz.ntmps92
  obtain ⟨X0, X1, X2, X3⟩ := four_cells H.out.hx
  obtain ⟨Y0, Y1, Y2, Y3⟩ := four_cells H.out.hy
  go_wp2_with fail
  refine (C1.out _ _ H.out.hr).mono ?_
  rintro e w1 ⟨rfl, hr1, hg1⟩
  have H1 := hidMk ((H.out.grown hg1 hr1).push F1)
  clear H hr1 hg1 X0 X1 X2 X3 Y0 Y1 Y2 Y3
  have H := H1
  clear H1
  obtain ⟨X0, X1, X2, X3⟩ := four_cells H.out.hx
  obtain ⟨Y0, Y1, Y2, Y3⟩ := four_cells H.out.hy
  go_wp2_with fail
  refine (C2.out _ _ H.out.hr).mono ?_
  rintro e w2 ⟨rfl, hr2, hg2⟩
  have H2 := hidMk ((H.out.grown hg2 hr2).push F2)
  clear H hr2 hg2 X0 X1 X2 X3 Y0 Y1 Y2 Y3
  have H := H2
  clear H2
  obtain ⟨X0, X1, X2, X3⟩ := four_cells H.out.hx
  obtain ⟨Y0, Y1, Y2, Y3⟩ := four_cells H.out.hy
  go_wp2_with fail
  refine (C4.out _ _ H.out.hr).mono ?_
  rintro e w3 ⟨rfl, hr3, hg3⟩
  have H3 := hidMk ((H.out.grown hg3 hr3).push F4)
  clear H hr3 hg3 X0 X1 X2 X3 Y0 Y1 Y2 Y3
  have H := H3
  clear H3
  obtain ⟨X0, X1, X2, X3⟩ := four_cells H.out.hx
  obtain ⟨Y0, Y1, Y2, Y3⟩ := four_cells H.out.hy
  go_wp2_with fail
  refine (C5.out _ _ H.out.hr).mono ?_
  rintro e w4 ⟨rfl, hr4, hg4⟩
  have H4 := hidMk ((H.out.grown hg4 hr4).push F5)
  clear H hr4 hg4 X0 X1 X2 X3 Y0 Y1 Y2 Y3
  have H := H4
  clear H4
  obtain ⟨X0, X1, X2, X3⟩ := four_cells H.out.hx
  obtain ⟨Y0, Y1, Y2, Y3⟩ := four_cells H.out.hy
  obtain ⟨L10, L11, _, _⟩ := two_cells (H.out.hex (w1.heap.size, F1) (by simp)).2
  obtain ⟨L20, L21, _, _⟩ := two_cells (H.out.hex (w2.heap.size, F2) (by simp)).2
  go_wp2_with fail
  refine (C3.out _ _ H.out.hr).mono ?_
  rintro e w5 ⟨rfl, hr5, hg5⟩
  have H5 := hidMk ((H.out.grown hg5 hr5).push F3)
  clear H hr5 hg5 X0 X1 X2 X3 Y0 Y1 Y2 Y3
  have H := H5
  clear H5
  clear L10 L11 L20 L21
  obtain ⟨X0, X1, X2, X3⟩ := four_cells H.out.hx
  obtain ⟨Y0, Y1, Y2, Y3⟩ := four_cells H.out.hy
  obtain ⟨L30, L31, _, _⟩ := two_cells (H.out.hex (w3.heap.size, F4) (by simp)).2
  obtain ⟨L40, L41, _, _⟩ := two_cells (H.out.hex (w4.heap.size, F5) (by simp)).2
  go_wp2_with fail
  refine (C6.out _ _ H.out.hr).mono ?_
  rintro e w6 ⟨rfl, hr6, hg6⟩
  have H6 := hidMk ((H.out.grown hg6 hr6).push F6)
  clear H hr6 hg6 X0 X1 X2 X3 Y0 Y1 Y2 Y3
  have H := H6
  clear H6
  clear L30 L31 L40 L41
  have hlt := H.out.lt
  have hbl := H.out.hlt
  obtain ⟨L50, L51, _, _⟩ := two_cells (H.out.hex (w5.heap.size, F3) (by simp)).2
  obtain ⟨L60, L61, _, _⟩ := two_cells (H.out.hex (w6.heap.size, F6) (by simp)).2
  obtain ⟨z0, z1, z2, z3⟩ := four_cells H.out.hz
  obtain ⟨f0, f1, f2, f3⟩ := four_frozen H.out.hz
  clear C1 C2 C3 C4 C5 C6
  go_wp2_with fail
  refine bp_gen (fun W' => W'.heap[w.heap.size + 1 + 1]? = some (.cells #[.int .i64 F3.n, .int .i64 F3.d, .int .i64 F6.n, .int .i64 F6.d] 92 (0, 0)) ∧ WySt b FB W' ∧ w.grownBy W' (some b)) ⟨four_set H.out.hz _ _ _ _, ?_, ?_⟩ ?_
  · rw [HB.out]
    unfold WySt
    rw [Below.heap_setCell _ _ _ _ (by simp; omega), Below.heap_setCell _ _ _ _ (by simp; omega), Below.heap_setCell _ _ _ _ (by simp; omega), Below.heap_setCell _ _ _ _ (by simp; omega)]
    exact H.out.hr
  · exact gb_new (gb_new (gb_new (gb_new H.out.hg (by omega) 0 _) (by omega) 1 _) (by omega) 2 _) (by omega) 3 _
  · rintro W ⟨hz, hr, hg⟩
    obtain ⟨z0, z1, z2, z3⟩ := four_cells hz
    rw [HN.out]
    exact bodyPost_ret (v := .agg #[.int .i64 F3.n, .int .i64 F3.d, .int .i64 F6.n, .int .i64 F6.d]) (by simp [results, Tryz.results92, go_sem, z0, z1, z2, z3]) rfl ⟨rfl, hr, hg⟩
end Go.Proofs.YtodabmkcihafhaaGreatDoor

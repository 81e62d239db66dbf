import Derived.ChangeKeysEq
import Derived.Shelf.SlMaps.Clone
import Derived.Test.YtodabmkcihafhaaGreatDoorK20
import Derived.Test.YtodabmkcihafhaaGreatDoorK21
import Derived.Test.YtodabmkcihafhaaGreatDoorK17
import Derived.Test.YtodabmkcihafhaaGreatDoorK6
import Derived.Test.YtodabmkcihafhaaGreatDoorK3

/- The law's pair of books; its values; the law Values. -/
namespace Go.Proofs.YtodabmkcihafhaaGreatDoor
open Go.RowKit
set_option linter.unusedVariables false

theorem refV_ans (names : List (Int × Num)) (s : ByteArray) : refV names s = ansV (valS names s) := by
  unfold refV
  rcases valS_read names s with ⟨hE, hs, hg, hv⟩ | ⟨hE, p, hp, hv⟩
  · rw [if_neg (by simpa using hE), hv]
    obtain ⟨h1, h2, h3, hi, h4⟩ := top_tree s hg
    obtain ⟨m1, m2⟩ := missL_tree (envOf names) (treeT s) 0 0 hi (-1) h3 h4 (Or.inl rfl)
    rw [h1, m1, if_pos rfl]
    unfold valT
    cases hm : missT (envOf names) (treeT s) with
    | some p =>
      simp only
      rw [if_pos (Int.natCast_nonneg p)]
      rfl
    | none =>
      simp only
      rw [if_neg (by decide)]
      have ht := runL_tree (envOf names) (treeT s) [] h3
      cases hv : evT (envOf names) (treeT s) with
      | ok x =>
        rw [hv] at ht
        obtain ⟨ws, h5, _⟩ := ht
        simp only [List.length_nil, List.nil_append] at h5
        rw [h5]
        unfold runV
        simp only [List.getLast?_append, List.getLast?_singleton]
        rfl
      | err q p =>
        rw [hv] at ht
        simp only [List.length_nil] at ht
        rw [ht]
        rfl
  · rw [if_pos hE, hv, hp]
    rfl

/-! ### A pair of books -/
abbrev prV (K B : Nat) : Value := .agg #[.pointer (some ⟨K, 0, none⟩), .pointer (some ⟨B, 0, none⟩)]
/-- A store into a block that is no book's. -/
theorem Bk.store {N : Nat} {aZ aB : Addr} {K P m T r : Nat} {names : List (Int × Num)} {w : World} (h : Bk N aZ aB K P m T r names w) {X : Nat} {c : Array Value} {t : TypeId} {f : Nat × Nat} (hX : w.heap[X]? = some (.cells c t f)) (ht : t ≠ 73 ∧ t ≠ 118 ∧ t ≠ 164) (hN : N ≤ X) (o : Nat) (v : Value) : Bk N aZ aB K P m T r names (w.setCell ⟨X, o, none⟩ v) := by
  have k : ∀ k, k ≠ X → (w.setCell ⟨X, o, none⟩ v).heap[k]? = w.heap[k]? := fun k hk => Below.heap_setCell _ _ _ _ hk
  obtain ⟨es, clock, m1, m2⟩ := h.pw.pg.hm
  obtain ⟨es', clock', r1, r2⟩ := h.pw.tb.hr
  have nm : m ≠ X := fun e => by rw [e, hX] at m1; cases m1
  have nr : r ≠ X := fun e => by rw [e, hX] at r1; cases r1
  have nK : K ≠ X := fun e => by
    have := h.hK
    rw [e, hX] at this
    simp at this
    exact ht.1 this.2.1
  have nP : P ≠ X := fun e => by
    have := h.pw.hP
    rw [e, hX] at this
    simp at this
    exact ht.2.1 this.2.1
  have nT : T ≠ X := fun e => by
    have := h.pw.tb.ht
    rw [e, hX] at this
    simp at this
    exact ht.2.2 this.2.1
  have hP' := (k P nP).trans h.pw.hP
  refine ⟨(k K nK).trans h.hK, ⟨h.pw.pg.hS.kept fun j hj => k j (by omega), ?_, (two_cells hP').1, es, clock, (k m nm).trans m1, m2⟩, hP', ⟨(k T nT).trans h.pw.tb.ht, es', clock', (k r nr).trans r1, r2⟩, h.pw.mr, h.pw.rN, h.pw.nm⟩
  have := h.pw.pg.hN
  have := ((Below.refl 0 w).setCell (p := ⟨X, o, none⟩) (Nat.zero_le _) v).size
  omega
theorem nm_nil {B : Nat} {w : World} {t : TypeId} (h : w.heap[B]? = some (.cells #[.slice none 0 0] t (0, 0))) : NmRow B [] w := ⟨_, one_cell h, Or.inl ⟨rfl, rfl⟩⟩
set_option maxHeartbeats 1000000 in
theorem pair_any (N : Nat) (aZ aB : Addr) (w : World) (hS : Sen N aZ aB w) (hN : N ≤ w.heap.size) :
    Calls Tryz.prog 16 #[] w fun e w' => ∃ K P m T r B, e = .returned (.tuple #[prV K B, .bool true]) ∧ Bk N aZ aB K P m T r [] w' ∧ NmRow B [] w' ∧ B ≠ r ∧ w.heap.size ≤ r ∧ w.heap.size ≤ B ∧ w.heap.size ≤ K ∧ w.heap.size ≤ P ∧ w.heap.size ≤ T ∧ w.heap.size ≤ m ∧ Below w.heap.size w w' := by
  have h0 := heap_alloc_new w (.cells #[.pointer none, .pointer none] 34)
  have hb0 := fr_below w (.cells #[.pointer none, .pointer none] 34)
  have C1 := new_any N aZ aB (w.alloc (.cells #[.pointer none, .pointer none] 34)) (hS.alloc hN _) (by simp; omega)
  simp only [World.size_alloc] at C1
  have HS := hidMk hN
  clear hS hN
  go_enter Tryz.func16, Tryz.ntmps16
  go_wp2_with fail
  refine C1.mono ?_
  rintro e w' ⟨rfl, hbk, hb⟩
  clear C1
  have h1 := (hb.block w.heap.size (by omega)).trans h0
  have hb1 := hb0.trans (hb.mono (by omega))
  have h2 := (Below.heap_alloc w' (.cells #[.slice none 0 0] 88) _ (Array.getElem?_eq_some_iff.1 h1).1).trans h1
  have hbk2 := hbk.below (fr_below w' (.cells #[.slice none 0 0] 88))
  have hB := heap_alloc_new w' (.cells #[.slice none 0 0] 88)
  have hb2 := hb1.alloc hb1.size (.cells #[.slice none 0 0] 88)
  have hlt := (Array.getElem?_eq_some_iff.1 hbk.hK).1
  clear h0 hb0 h1 hbk hb
  generalize w.alloc _ = W0 at *
  obtain ⟨c0, c1, f0, f1⟩ := two_cells h2
  go_wp2_with fail
  have hbk3 := (hbk2.store h2 ⟨by decide, by decide, by decide⟩ HS.out 0 (.pointer (some ⟨w.heap.size + 1 + 4, 0, none⟩)))
  have h3 : ((w'.alloc (.cells #[.slice none 0 0] 88)).setCell ⟨w.heap.size, 0, none⟩ (.pointer (some ⟨w.heap.size + 1 + 4, 0, none⟩))).heap[w.heap.size]? = some (.cells #[.pointer (some ⟨w.heap.size + 1 + 4, 0, none⟩), .pointer none] 34 (0, 0)) := by
    simp [World.setCell, Array.getElem?_modify, h2]
  have hbk4 := (hbk3.store h3 ⟨by decide, by decide, by decide⟩ HS.out 1 (.pointer (some ⟨w'.heap.size, 0, none⟩)))
  have h4 := two_set h2 (.pointer (some ⟨w.heap.size + 1 + 4, 0, none⟩)) (.pointer (some ⟨w'.heap.size, 0, none⟩))
  have hne : w'.heap.size ≠ w.heap.size := by omega
  have hB4 := (two_other hne (.pointer (some ⟨w.heap.size + 1 + 4, 0, none⟩)) (.pointer (some ⟨w'.heap.size, 0, none⟩))).trans hB
  have hb4 := (hb2.setCell (p := ⟨w.heap.size, 0, none⟩) (Nat.le_refl _) (.pointer (some ⟨w.heap.size + 1 + 4, 0, none⟩))).setCell (p := ⟨w.heap.size, 1, none⟩) (Nat.le_refl _) (.pointer (some ⟨w'.heap.size, 0, none⟩))
  clear hbk2 hbk3 h3 h2 hB hb2 c0 c1 f0 f1
  generalize ((w'.alloc _).setCell _ _).setCell _ _ = W5 at *
  obtain ⟨c0, c1, _, _⟩ := two_cells h4
  exact bodyPost_ret (v := .tuple #[prV (w.heap.size + 1 + 4) w'.heap.size, .bool true]) (by simp [results, Tryz.results16, go_sem, c0, c1]) rfl ⟨_, _, _, _, _, _, rfl, hbk4, nm_nil hB4, by omega, by omega, by omega, by omega, by omega, by omega, by omega, hb4⟩
end Go.Proofs.YtodabmkcihafhaaGreatDoor

/- Arrays of four numbers, held against one another. -/
namespace Go.Proofs.YtodabmkcihafhaaGreatDoor
open Go.RowKit
theorem eq_int (d : Nat) (a b : Int) (W : World) : (Op.equalIn (d + 1) 3 (.int .i64 a) (.int .i64 b)).run Tryz.prog W = .ok (a == b) W := by
  simp [Op.equalIn, run_underlying Tryz.underlying3, Result.andThen]
theorem part_int {cs : Array Value} {k : Nat} {v : Value} (h : cs[k]? = some v) (W : World) : (part 3 cs k).run Tryz.prog W = .ok v W := by
  simp [part, Tryz.isAgg3, h, Result.andThen]
theorem eq_step {xs ys : Array Value} {k d : Nat} {is : List Nat} {a b : Int} {r : Bool} (hx : xs[k]? = some (.int .i64 a)) (hy : ys[k]? = some (.int .i64 b)) (W : World) (h : (Op.eqItems (d + 1) 3 1 xs ys is).run Tryz.prog W = .ok r W) : (Op.eqItems (d + 1) 3 1 xs ys (k :: is)).run Tryz.prog W = .ok (a == b && r) W := by
  simp only [Op.eqItems, Nat.mul_one, Sem.run_bind, part_int hx, part_int hy, Result.andThen_ok, eq_int]
  cases a == b with
  | true => simpa using h
  | false => simp
theorem eq4 (a b c d a' b' c' d' : Int) (W : World) : (Op.equalIn 10000 27 (.agg #[.int .i64 a, .int .i64 b, .int .i64 c, .int .i64 d]) (.agg #[.int .i64 a', .int .i64 b', .int .i64 c', .int .i64 d'])).run Tryz.prog W = .ok (a == a' && (b == b' && (c == c' && (d == d' && true)))) W := by
  obtain ⟨i, hi⟩ : ∃ i, Tryz.prog.info? 3 = some i := Option.isSome_iff_exists.1 (by kernel_rfl)
  have hc : Tryz.prog.cellsOf 3 = 1 := by kernel_rfl
  rw [show (10000 : Nat) = 9999 + 1 from rfl, run_equalIn_array W 9999 _ _ Tryz.underlying27 hi, hc]
  have hr : List.range 4 = [0, 1, 2, 3] := rfl
  rw [hr]
  exact eq_step rfl rfl W (eq_step rfl rfl W (eq_step rfl rfl W (eq_step rfl rfl W (by simp [Op.eqItems]))))
theorem eq4_same (a b c d : Int) (W : World) : (Op.equalIn 10000 27 (.agg #[.int .i64 a, .int .i64 b, .int .i64 c, .int .i64 d]) (.agg #[.int .i64 a, .int .i64 b, .int .i64 c, .int .i64 d])).run Tryz.prog W = .ok true W := by
  rw [eq4]; simp
end Go.Proofs.YtodabmkcihafhaaGreatDoor

/- The law's values, and the law Values. -/
namespace Go.Proofs.YtodabmkcihafhaaGreatDoor
open Go.RowKit
set_option linter.unusedVariables false

theorem NmRow.kept {B r : Nat} {names : List (Int × Num)} {w w' : World} (h : NmRow B names w) (g : Kp (· = r) w w') (hr : ∃ es clock, w.heap[r]? = some (.map es clock)) : NmRow B names w' := by
  obtain ⟨es, clock, hm⟩ := hr
  have k : ∀ a v, w.cell? a = some v → w'.cell? a = some v := fun a v hc => by
    have hlt := World.block_lt_of_cell? _ _ hc
    have hne : a.block ≠ r := by
      intro e
      unfold World.cell? at hc
      rw [e, hm] at hc
      cases hc
    rw [World.cell?_of_block (w := w) (g.block a.block hlt hne)]
    exact hc
  obtain ⟨v, hv, hc⟩ := h
  refine ⟨v, k _ _ hv, ?_⟩
  rcases hc with hc | ⟨g1, cap, h1, h2, h3, h4⟩
  · exact Or.inl hc
  · refine Or.inr ⟨g1, cap, h1, h2, h3, fun i c x hi => ?_⟩
    obtain ⟨q1, q2, q3, q4, q5⟩ := h4 i c x hi
    exact ⟨k _ _ q1, k _ _ q2, k _ _ q3, k _ _ q4, k _ _ q5⟩
/-- A pair of books: the program's (block K), the document's (block B). -/
structure Pr (N : Nat) (aZ aB : Addr) (K P m T r B : Nat) (names : List (Int × Num)) (w : World) : Prop where
  bk : Bk N aZ aB K P m T r names w
  nr : NmRow B names w
  nl : names.length ≤ 1000
theorem Pr.below {N : Nat} {aZ aB : Addr} {K P m T r B : Nat} {names : List (Int × Num)} {w w' : World} (h : Pr N aZ aB K P m T r B names w) (g : Below w.heap.size w w') : Pr N aZ aB K P m T r B names w' := ⟨h.bk.below g, h.nr.below g, h.nl⟩
theorem Pr.kept {N : Nat} {aZ aB : Addr} {K P m T r B : Nat} {names : List (Int × Num)} {w w' : World} (h : Pr N aZ aB K P m T r B names w) (g : Kp (· = r) w w') (ht : Tb T r names w') : Pr N aZ aB K P m T r B names w' := by
  obtain ⟨es, clock, h1, h2⟩ := h.bk.pw.tb.hr
  exact ⟨h.bk.kept g ht, h.nr.kept g ⟨es, clock, h1⟩, h.nl⟩
/-- The law's world: the pair's box. -/
structure LV (N : Nat) (aZ aB : Addr) (K P m T r B : Nat) (names : List (Int × Num)) (w : World) (W : World) : Prop where
  pr : Pr N aZ aB K P m T r B names W
  hx : W.heap[w.heap.size]? = some (.cells #[.pointer (some ⟨K, 0, none⟩), .pointer (some ⟨B, 0, none⟩)] 34 (0, 0))
  hr : r < w.heap.size
  hk : Kp (· = r) w W
section
variable {N : Nat} {aZ aB : Addr} {K P m T r B : Nat} {names : List (Int × Num)} {w W W' : World}
theorem LV.below (h : LV N aZ aB K P m T r B names w W) (g : Below W.heap.size W W') : LV N aZ aB K P m T r B names w W' :=
  ⟨h.pr.below g, (g.block _ (Array.getElem?_eq_some_iff.1 h.hx).1).trans h.hx, h.hr, h.hk.below g⟩
theorem LV.kept (h : LV N aZ aB K P m T r B names w W) (g : Kp (· = r) W W') (ht : Tb T r names W') : LV N aZ aB K P m T r B names w W' :=
  ⟨h.pr.kept g ht, (g.block _ (Array.getElem?_eq_some_iff.1 h.hx).1 (by have := h.hr; omega)).trans h.hx, h.hr, h.hk.trans g⟩
theorem LV.new (h : Pr N aZ aB K P m T r B names w) : LV N aZ aB K P m T r B names w (w.alloc (.cells #[.pointer (some ⟨K, 0, none⟩), .pointer (some ⟨B, 0, none⟩)] 34)) := by
  obtain ⟨es, clock, h1, _⟩ := h.bk.pw.tb.hr
  exact ⟨h.below (fr_below w _), heap_alloc_new w _, (Array.getElem?_eq_some_iff.1 h1).1, (Kp.refl _ w).alloc _⟩
end

theorem tk_set4 {T r X : Nat} {names : List (Int × Num)} {w W : World} {a b c d : Value} (h : Tb T r names W) (hk : Kp (· = r) w W) (hz : W.heap[X]? = some (.cells #[a, b, c, d] 27 (0, 0))) (hX : w.heap.size ≤ X) (a' b' c' d' : Value) :
    Tb T r names ((((W.setCell ⟨X, 0, none⟩ a').setCell ⟨X, 1, none⟩ b').setCell ⟨X, 2, none⟩ c').setCell ⟨X, 3, none⟩ d') ∧ Kp (· = r) w ((((W.setCell ⟨X, 0, none⟩ a').setCell ⟨X, 1, none⟩ b').setCell ⟨X, 2, none⟩ c').setCell ⟨X, 3, none⟩ d') := by
  obtain ⟨es, clock, h1, h2⟩ := h.hr
  have nT : T ≠ X := fun e => by
    have := h.ht
    rw [e, hz] at this
    simp at this
  have nr : r ≠ X := fun e => by
    rw [e, hz] at h1
    cases h1
  refine ⟨⟨?_, es, clock, ?_, h2⟩, (((hk.setCell (p := ⟨X, 0, none⟩) (Or.inr hX) _).setCell (p := ⟨X, 1, none⟩) (Or.inr hX) _).setCell (p := ⟨X, 2, none⟩) (Or.inr hX) _).setCell (p := ⟨X, 3, none⟩) (Or.inr hX) _⟩
  · rw [Below.heap_setCell _ _ _ _ nT, Below.heap_setCell _ _ _ _ nT, Below.heap_setCell _ _ _ _ nT, Below.heap_setCell _ _ _ _ nT]; exact h.ht
  · rw [Below.heap_setCell _ _ _ _ nr, Below.heap_setCell _ _ _ _ nr, Below.heap_setCell _ _ _ _ nr, Below.heap_setCell _ _ _ _ nr]; exact h1
theorem four_other {w : World} {X k : Nat} (h : k ≠ X) (a b c d : Value) : ((((w.setCell ⟨X, 0, none⟩ a).setCell ⟨X, 1, none⟩ b).setCell ⟨X, 2, none⟩ c).setCell ⟨X, 3, none⟩ d).heap[k]? = w.heap[k]? := by
  rw [Below.heap_setCell _ _ _ _ h, Below.heap_setCell _ _ _ _ h, Below.heap_setCell _ _ _ _ h, Below.heap_setCell _ _ _ _ h]
set_option maxHeartbeats 4000000 in
set_option maxRecDepth 100000 in
theorem values_any (N : Nat) (aZ aB : Addr) (K P m T r B : Nat) (names : List (Int × Num)) (s : ByteArray) (w : World) (h : Pr N aZ aB K P m T r B names w) :
    Calls Tryz.prog 17 #[prV K B, .string s] w fun e w' => e = .returned (.bool true) ∧ Tb T r names w' ∧ Kp (· = r) w w' := by
  have h0 := LV.new h
  have CV := hidMk (fun W hW => value_any N aZ aB K P m T r names s W hW)
  have CN : Hid (∀ W, NmRow B names W → Calls Tryz.prog 36 #[.pointer (some ⟨B, 0, none⟩), .string s] W fun e w' => e = .returned (ansV (valS names s)) ∧ Below W.heap.size W w') := fun W hW => by
    have := rnumber_any B names s W h.nl h.bk.pw.nm hW
    rw [refV_ans] at this
    exact this
  have HVS := hidMk (valS_cases names s h.bk.pw.nm)
  clear h
  go_enter Tryz.func17, Tryz.ntmps17
  go_upto_region 1 with fail
  generalize w.alloc _ = W at *
  obtain ⟨c0, c1, _, _⟩ := two_cells h0.hx
  have H0 := hidMk h0
  clear h0
  go_wp2_with fail
  refine (CV.out _ H0.out.pr.bk).mono ?_
  rintro e w1 ⟨rfl, ht1, hk1⟩
  have h1 := H0.out.kept hk1 ht1
  clear H0 ht1 hk1 CV c0 c1
  have HA : Hid (∃ (z : Num) (q p : Int), ansV (valS names s) = .tuple #[.agg (numC z), .int .i64 q, .int .i64 p] ∧ (q = 0 ∨ (q ≠ 0 ∧ z = ⟨⟨0, 0⟩, ⟨0, 0⟩⟩))) := by
    rcases HVS.out with ⟨x, hv⟩ | ⟨q, p, hv, hq⟩
    · rw [hv]; exact ⟨x, 0, 0, rfl, Or.inl rfl⟩
    · rw [hv]; exact ⟨_, q, p, rfl, Or.inr ⟨hq, rfl⟩⟩
  obtain ⟨z, q, p, hv, hq⟩ := HA.out
  rw [hv] at CN ⊢
  have HQ := hidMk hq
  clear HA HVS hv hq
  go_upto_region 2 with fail
  have h2 := h1.below (fr_below w1 (.cells (numC z) 27))
  have hx2 := heap_alloc_new w1 (.cells (numC z) 27)
  generalize w1.alloc _ = W2 at *
  generalize w1.heap.size = b5 at *
  obtain ⟨c0, c1, _, _⟩ := two_cells h2.hx
  have H2 := hidMk h2
  have HX2 := hidMk hx2
  clear h1 h2 hx2
  go_wp2_with fail
  refine (CN.out _ H2.out.pr.nr).mono ?_
  rintro e w3 ⟨rfl, hb3⟩
  have h3 := H2.out.below hb3
  have hx3 := (hb3.block _ (Array.getElem?_eq_some_iff.1 HX2.out).1).trans HX2.out
  clear H2 HX2 hb3 CN c0 c1
  go_upto_region 3 with fail
  have h4 := h3.below (fr_below w3 (.cells (numC z) 92))
  have hx4 := (Below.heap_alloc w3 (.cells (numC z) 92) _ (Array.getElem?_eq_some_iff.1 hx3).1).trans hx3
  have hy4 := heap_alloc_new w3 (.cells (numC z) 92)
  generalize w3.alloc _ = W4 at *
  generalize w3.heap.size = b8 at *
  clear h3 hx3
  have C15 := hidMk (fun e W => num_any e W)
  go_upto_region 4 with fail
  have h5 := h4.below (fr_below W4 (.cells #[.int .i64 0, .int .i64 0, .int .i64 0, .int .i64 0] 27))
  have hx5 := (Below.heap_alloc W4 (.cells #[.int .i64 0, .int .i64 0, .int .i64 0, .int .i64 0] 27) _ (Array.getElem?_eq_some_iff.1 hx4).1).trans hx4
  have hy5 := (Below.heap_alloc W4 (.cells #[.int .i64 0, .int .i64 0, .int .i64 0, .int .i64 0] 27) _ (Array.getElem?_eq_some_iff.1 hy4).1).trans hy4
  have hz5 := heap_alloc_new W4 (.cells #[.int .i64 0, .int .i64 0, .int .i64 0, .int .i64 0] 27)
  have hlt : w.heap.size ≤ W4.heap.size ∧ b5 ≠ W4.heap.size := ⟨h4.hk.size, fun e => by have := (Array.getElem?_eq_some_iff.1 hx4).1; omega⟩
  generalize W4.alloc _ = W5 at *
  generalize W4.heap.size = b11 at *
  clear h4 hx4 hy4
  obtain ⟨x0, x1, x2, x3⟩ := four_cells hx5
  obtain ⟨y0, y1, y2, y3⟩ := four_cells hy5
  obtain ⟨z0, z1, z2, z3⟩ := four_cells hz5
  obtain ⟨f0, f1, f2, f3⟩ := four_frozen hz5
  have H5 := hidMk h5
  have HX5 := hidMk hx5
  have HZ5 := hidMk hz5
  have HLT := hidMk hlt
  clear h5 hx5 hy5 hz5 hlt
  rcases HQ.out with rfl | ⟨hq, rfl⟩
  · go_upto_region 6 with fail
    obtain ⟨t6, k6⟩ := tk_set4 H5.out.pr.bk.pw.tb H5.out.hk HZ5.out HLT.out.1 (.int .i64 z.re.n) (.int .i64 z.re.d) (.int .i64 z.im.n) (.int .i64 z.im.d)
    have hx6 := (four_other (w := W5) HLT.out.2 (.int .i64 z.re.n) (.int .i64 z.re.d) (.int .i64 z.im.n) (.int .i64 z.im.d)).trans HX5.out
    have hz6 := four_set HZ5.out (.int .i64 z.re.n) (.int .i64 z.re.d) (.int .i64 z.im.n) (.int .i64 z.im.d)
    generalize (((W5.setCell _ _).setCell _ _).setCell _ _).setCell _ _ = W6 at *
    clear x0 x1 x2 x3 y0 y1 y2 y3 z0 z1 z2 z3 f0 f1 f2 f3
    obtain ⟨x0, x1, x2, x3⟩ := four_cells hx6
    obtain ⟨z0, z1, z2, z3⟩ := four_cells hz6
    have HR : Hid (Tb T r names W6 ∧ Kp (· = r) w W6) := ⟨t6, k6⟩
    clear t6 k6 hx6 hz6 H5 HX5 HZ5
    have heq := eq4_same z.re.n z.re.d z.im.n z.im.d W6
    go_wp2_with (go_at_call 15; refine (C15.out _ _).mono ?_; rintro e w7 ⟨rfl, rfl⟩)
    go_ret
    exact ⟨rfl, HR.out⟩
  · have hne : (q == 0) = false := by simpa using hq
    clear hq y0 y1 y2 y3 f0 f1 f2 f3
    have HR : Hid (Tb T r names W5 ∧ Kp (· = r) w W5) := ⟨H5.out.pr.bk.pw.tb, H5.out.hk⟩
    clear H5 HX5 HZ5
    have heq := eq4_same 0 0 0 0 W5
    go_wp2_with (go_at_call 15; refine (C15.out _ _).mono ?_; rintro e w7 ⟨rfl, rfl⟩)
    go_ret
    exact ⟨rfl, HR.out⟩
end Go.Proofs.YtodabmkcihafhaaGreatDoor

/- Near: the nearest whole numbers; the parts of both sides. -/
namespace Go.Proofs.YtodabmkcihafhaaGreatDoor
open Go.RowKit
set_option linter.unusedVariables false

/-- The whole number that is nearest to a by d; of two the even one. -/
def nrQ (a d : Int) : Int := if 2 * (a % d) > d ∨ (2 * (a % d) = d ∧ a / d % 2 = 1) then a / d + 1 else a / d
def nrP (f : Fr) (n : Nat) : Int := if f.n < 0 then -(nrQ (-f.n * 2 ^ n) f.d) else nrQ (f.n * 2 ^ n) f.d
/-- Downwards, and what is left. -/
def nrF (a d : Int) : Int := if 2 * (a % d) > d ∨ (2 * (a % d) = d ∧ a / d % 2 ≠ 0) then a / d + 1 else a / d
theorem nr_nonneg {a d : Int} (hd : 0 < d) : nrF a d = nrQ a d := by
  unfold nrF nrQ
  have h2 : a / d % 2 ≠ 0 ↔ a / d % 2 = 1 := by omega
  simp only [h2]
theorem nr_neg {a d : Int} (hd : 0 < d) : nrF (-a) d = -(nrQ a d) := by
  unfold nrF nrQ
  have e1 := Int.mul_ediv_add_emod a d
  have m1 := Int.emod_nonneg a (show d ≠ 0 by omega)
  have m2 := Int.emod_lt_of_pos a hd
  have e2 := Int.mul_ediv_add_emod (-a) d
  have n1 := Int.emod_nonneg (-a) (show d ≠ 0 by omega)
  have n2 := Int.emod_lt_of_pos (-a) hd
  generalize a / d = q at *
  generalize a % d = r at *
  generalize -a / d = p at *
  generalize -a % d = s at *
  by_cases hr : r = 0
  · have : p = -q ∧ s = 0 := by
      have h : d * (p + q) = -s := by
        rw [Int.mul_add]
        omega
      have h3 : p + q = 0 := by
        rcases Int.lt_trichotomy (p + q) 0 with h | h | h
        · have := Int.mul_le_mul_of_nonneg_left (show p + q ≤ -1 by omega) (Int.le_of_lt hd)
          omega
        · exact h
        · have := Int.mul_le_mul_of_nonneg_left (show 1 ≤ p + q by omega) (Int.le_of_lt hd)
          omega
      rw [h3] at h
      simp at h
      omega
    obtain ⟨rfl, rfl⟩ := this
    subst hr
    rw [if_neg (by omega), if_neg (by omega)]
  · have : p = -q - 1 ∧ s = d - r := by
      have h : d * (p + q + 1) = d - r - s := by
        rw [Int.mul_add, Int.mul_add]
        omega
      have h3 : p + q + 1 = 0 := by
        rcases Int.lt_trichotomy (p + q + 1) 0 with h | h | h
        · have := Int.mul_le_mul_of_nonneg_left (show p + q + 1 ≤ -1 by omega) (Int.le_of_lt hd)
          omega
        · exact h
        · have := Int.mul_le_mul_of_nonneg_left (show 1 ≤ p + q + 1 by omega) (Int.le_of_lt hd)
          omega
      rw [h3] at h
      simp at h
      omega
    obtain ⟨rfl, rfl⟩ := this
    clear e1 e2 n1 n2
    split <;> split <;> omega
theorem near_same {f : Fr} (hf : f.Ok) (n : Nat) : nrF (f.n * 2 ^ n) f.d = nrP f n := by
  unfold nrP
  by_cases h : f.n < 0
  · rw [if_pos h]
    have := nr_neg (a := -f.n * 2 ^ n) hf.1
    rw [show -(-f.n * 2 ^ n) = f.n * 2 ^ n by rw [Int.neg_mul]; omega] at this
    exact this
  · rw [if_neg h]
    exact nr_nonneg hf.1

theorem pow_le20 {n : Nat} (h : n ≤ 20) : (1 : Int) ≤ 2 ^ n ∧ (2 : Int) ^ n ≤ 1048576 := by
  have h1 : (2 : Nat) ^ n ≤ 2 ^ 20 := Nat.pow_le_pow_right (by decide) h
  have h2 : 1 ≤ (2 : Nat) ^ n := Nat.one_le_two_pow
  have e : ((2 : Nat) ^ n : Nat) = ((2 : Int) ^ n) := by simp
  have e20 : (2 : Nat) ^ 20 = 1048576 := by decide
  omega
set_option maxHeartbeats 1000000 in
theorem power_any (n : Nat) (w : World) (h : n ≤ 20) : Calls Tryz.prog 110 #[.int .i64 n] w fun e w' => e = .returned (.int .i64 (2 ^ n)) ∧ w' = w := by
  obtain ⟨p1, p2⟩ := pow_le20 h
  go_enter Tryz.func110, Tryz.ntmps110
  go_wp2_with fail
  go_ret
  exact ⟨rfl, rfl⟩

/-! ### The document's nearest -/
set_option maxHeartbeats 2000000 in
set_option maxRecDepth 100000 in
theorem nearest_any (f : Fr) (n : Nat) (w : World) (hf : f.Ok) (hn : n ≤ 20) : Calls Tryz.prog 73 #[.agg #[.int .i64 f.n, .int .i64 f.d], .int .i64 n] w fun e w' => e = .returned (.int .i64 (nrP f n)) ∧ Below w.heap.size w w' := by
  have CA := hidMk (fun W => rabs_any f.n W (by have := hf.2.2.1; omega) (by have := hf.2.2.2.1; omega))
  have CP := hidMk (fun W => power_any n W hn)
  have hx := heap_alloc_new w (.cells #[.int .i64 f.n, .int .i64 f.d] 90)
  have hb := fr_below w (.cells #[.int .i64 f.n, .int .i64 f.d] 90)
  obtain ⟨p1, p2⟩ := pow_le20 hn
  obtain ⟨d1, d2, n1, n2, _⟩ := hf
  go_enter Tryz.func73, Tryz.ntmps73
  go_upto_region 1 with fail
  generalize w.alloc _ = W at *
  obtain ⟨c0, c1, _, _⟩ := two_cells hx
  obtain ⟨A, hA⟩ : ∃ A : Int, (f.n.natAbs : Int) = A := ⟨_, rfl⟩
  obtain ⟨M, hM⟩ : ∃ M : Int, A * 2 ^ n = M := ⟨_, rfl⟩
  have a1 : 0 ≤ A ∧ A ≤ 999999 := by omega
  have m1 : 0 ≤ M ∧ M ≤ 999999 * 1048576 := by
    have h1 := Int.mul_nonneg a1.1 (show (0 : Int) ≤ 2 ^ n by omega)
    have h2 := Int.mul_le_mul a1.2 p2 (show (0 : Int) ≤ 2 ^ n by omega) (by decide)
    omega
  rw [hA] at CA
  have HN : Hid (nrP f n = if f.n < 0 then -(nrQ M f.d) else nrQ M f.d) := by
    show _ = _
    unfold nrP
    by_cases h : f.n < 0
    · rw [if_pos h, if_pos h, ← hM, ← hA, show -f.n = (f.n.natAbs : Int) by omega]
    · rw [if_neg h, if_neg h, ← hM, ← hA, show f.n = (f.n.natAbs : Int) by omega]
      simp
  generalize f.n = fn at *
  generalize f.d = fd at *
  clear hn p1 p2
  go_wp2_with fail
  refine (CA.out W).mono ?_
  rintro e w1 ⟨rfl, rfl⟩
  have wM : wrap64 (A * 2 ^ n) = M := by rw [hM]; unfold wrap64; omega
  generalize (2 : Int) ^ n = P at *
  clear hM hA a1
  go_wp2_with fail
  refine (CP.out _).mono ?_
  rintro e w2 ⟨rfl, rfl⟩
  go_upto_region 4 with fail
  have r1 := Int.emod_nonneg M (show fd ≠ 0 by omega)
  have r2 := Int.emod_lt_of_pos M d1
  have q1 := Int.ediv_nonneg m1.1 (Int.le_of_lt d1)
  have q2 := Int.ediv_le_self fd m1.1
  have hv := HN.out
  unfold nrQ at hv
  have w2r : wrap64 (2 * (M % fd)) = 2 * (M % fd) := by unfold wrap64; omega
  rw [w2r, wM]
  generalize M % fd = rr at *
  generalize M / fd = q at *
  have wq : wrap64 (q + 1) = q + 1 := by unfold wrap64; omega
  have wn : wrap64 (-q) = -q := by unfold wrap64; omega
  have wn1 : wrap64 (-(q + 1)) = -(q + 1) := by unfold wrap64; omega
  have tm : q.tmod 2 = q % 2 := Int.tmod_eq_emod_of_nonneg q1
  have HV := hidMk hv
  clear hv HN w2r wM CA CP hx
  by_cases h1 : 2 * rr > fd
  · by_cases h2 : fn < 0
    · go_wp2_with fail
      go_ret
      exact ⟨by rw [HV.out, if_pos (show fn < 0 by omega), if_pos (show 2 * rr > fd ∨ 2 * rr = fd ∧ q % 2 = 1 by omega)]; rfl, hb⟩
    · go_wp2_with fail
      go_ret
      exact ⟨by rw [HV.out, if_neg (show ¬ fn < 0 by omega), if_pos (show 2 * rr > fd ∨ 2 * rr = fd ∧ q % 2 = 1 by omega)]; rfl, hb⟩
  · by_cases h3 : 2 * rr = fd
    · by_cases h4 : q % 2 = 1
      · by_cases h2 : fn < 0
        · go_wp2_with fail
          go_ret
          exact ⟨by rw [HV.out, if_pos (show fn < 0 by omega), if_pos (show 2 * rr > fd ∨ 2 * rr = fd ∧ q % 2 = 1 by omega)]; rfl, hb⟩
        · go_wp2_with fail
          go_ret
          exact ⟨by rw [HV.out, if_neg (show ¬ fn < 0 by omega), if_pos (show 2 * rr > fd ∨ 2 * rr = fd ∧ q % 2 = 1 by omega)]; rfl, hb⟩
      · by_cases h2 : fn < 0
        · go_wp2_with fail
          go_ret
          exact ⟨by rw [HV.out, if_pos (show fn < 0 by omega), if_neg (show ¬ (2 * rr > fd ∨ 2 * rr = fd ∧ q % 2 = 1) by omega)]; rfl, hb⟩
        · go_wp2_with fail
          go_ret
          exact ⟨by rw [HV.out, if_neg (show ¬ fn < 0 by omega), if_neg (show ¬ (2 * rr > fd ∨ 2 * rr = fd ∧ q % 2 = 1) by omega)]; rfl, hb⟩
    · by_cases h2 : fn < 0
      · go_wp2_with fail
        go_ret
        exact ⟨by rw [HV.out, if_pos (show fn < 0 by omega), if_neg (show ¬ (2 * rr > fd ∨ 2 * rr = fd ∧ q % 2 = 1) by omega)]; rfl, hb⟩
      · go_wp2_with fail
        go_ret
        exact ⟨by rw [HV.out, if_neg (show ¬ fn < 0 by omega), if_neg (show ¬ (2 * rr > fd ∨ 2 * rr = fd ∧ q % 2 = 1) by omega)]; rfl, hb⟩
end Go.Proofs.YtodabmkcihafhaaGreatDoor

/- Let: what a name is, for both sides. -/
namespace Go.Proofs.YtodabmkcihafhaaGreatDoor
open Go.RowKit
set_option linter.unusedVariables false
def nmP (s : ByteArray) : Int := if (atP s 0).2 = 0 ∨ (atP s 0).2 ≠ s.size ∨ (atP s 0).1 < 945 ∨ (atP s 0).1 > 969 then 0 else (atP s 0).1
def okN (s : ByteArray) : Bool := decide (((Lib.decodeGo s).2 : Int) = s.size) && isNm (Lib.decodeGo s).1
theorem nm_same (s : ByteArray) : (okN s = true ∧ nmP s = ((Lib.decodeGo s).1 : Int) ∧ 945 ≤ nmP s ∧ nmP s ≤ 969) ∨ (okN s = false ∧ nmP s = 0) := by
  unfold okN nmP Lib.decodeGo
  by_cases h0 : s.size = 0
  · right
    have : atP s 0 = (0, 0) := by simp [atP, h0]
    rw [if_pos h0, this]
    refine ⟨?_, by simp⟩
    have : isNm ((65533 : Nat) : Int) = false := by decide
    show (_ && isNm ((65533 : Nat) : Int)) = false
    rw [this, Bool.and_false]
  · rw [if_neg h0]
    have hd := at_dec s 0 (by omega)
    have hp := dec_pos s 0 (by omega)
    generalize Utf8.decode s 0 = D at *
    obtain ⟨c, n⟩ := D
    simp only at hp ⊢
    by_cases hc : 945 ≤ c ∧ c ≤ 969
    · have hk : known c = true := by unfold known; simp; omega
      rw [hk] at hd
      simp only [if_true] at hd
      rw [hd]
      have hn : isNm (c : Int) = true := by unfold isNm; simp; omega
      by_cases hs : n = s.size
      · left
        simp only
        rw [if_neg (by omega), hn]
        refine ⟨by simp [hs], rfl, by omega, by omega⟩
      · right
        simp only
        rw [if_pos (Or.inr (Or.inl hs))]
        refine ⟨?_, rfl⟩
        have : ¬ (n : Int) = (s.size : Int) := by omega
        simp [this]
    · right
      have hn : isNm (c : Int) = false := by unfold isNm; simp; omega
      rw [hn]
      refine ⟨by simp, ?_⟩
      rw [hd]
      cases known c with
      | true =>
        simp only [if_true]
        exact if_pos (by omega)
      | false => simp
set_option maxHeartbeats 2000000 in
set_option maxRecDepth 100000 in
theorem rname_any (s : ByteArray) (w : World) : Calls Tryz.prog 75 #[.string s] w fun e w' => e = .returned (.int .i64 (nmP s)) ∧ Below w.heap.size w w' := by
  have CA := hidMk (atK_any s 0 w (by omega) (by omega))
  have HV : Hid (nmP s = if (atP s 0).2 = 0 ∨ (atP s 0).2 ≠ s.size ∨ (atP s 0).1 < 945 ∨ (atP s 0).1 > 969 then 0 else ((atP s 0).1 : Int)) := rfl
  have hle := (atP_le s 0).1
  have hc := (atP_le s 0).2.2
  generalize nmP s = V at *
  generalize (atP s 0).1 = c at *
  generalize (atP s 0).2 = n at *
  go_enter Tryz.func75, Tryz.ntmps75
  go_wp2_with fail
  refine CA.out.mono ?_
  rintro e w1 ⟨rfl, k, rfl⟩
  have HB : Hid (Below w.heap.size w (w.drewN k)) := below_drewN (Below.refl _ _) k
  clear CA
  by_cases h0 : n = 0
  · subst h0
    have hv : V = 0 := by rw [HV.out, if_pos (Or.inl rfl)]
    subst hv
    clear HV
    go_wp2_with fail
    go_ret
    exact ⟨rfl, HB.out⟩
  · have q0 : ((n : Int) == 0) = false := by simp; omega
    by_cases h1 : n = s.size
    · have q1 : ((n : Int) != (s.size : Int)) = false := by simp; omega
      by_cases h2 : c < 945
      · have hv : V = 0 := by rw [HV.out, if_pos (by omega)]
        subst hv
        have q2 : (c : Int) < 945 := by omega
        clear HV h0 h1
        go_wp2_with fail
        go_ret
        exact ⟨rfl, HB.out⟩
      · have q2 : ¬ (c : Int) < 945 := by omega
        by_cases h3 : c > 969
        · have hv : V = 0 := by rw [HV.out, if_pos (by omega)]
          subst hv
          have q3 : (c : Int) > 969 := by omega
          clear HV h0 h1
          go_wp2_with fail
          go_ret
          exact ⟨rfl, HB.out⟩
        · have hv : V = c := by rw [HV.out, if_neg (by omega)]
          subst hv
          have q3 : ¬ (c : Int) > 969 := by omega
          clear HV h0 h1
          go_wp2_with fail
          go_ret
          exact ⟨rfl, HB.out⟩
    · have q1 : ((n : Int) != (s.size : Int)) = true := by simp; omega
      have hv : V = 0 := by rw [HV.out, if_pos (Or.inr (Or.inl h1))]
      subst hv
      clear HV h0 h1
      go_wp2_with fail
      go_ret
      exact ⟨rfl, HB.out⟩
set_option maxHeartbeats 2000000 in
set_option maxRecDepth 100000 in
theorem onename_any (s : ByteArray) (w : World) (h : U8T w) : Calls Tryz.prog 37 #[.string s] w fun e w' => e = .returned (.tuple #[.int .i32 (Lib.decodeGo s).1, .bool (okN s)]) ∧ Below w.heap.size w w' := by
  have CD := hidMk (decodeIn_any s w h)
  have CN := hidMk (fun W => isName_any ((Lib.decodeGo s).1 : Int) W)
  have HV : Hid (okN s = (decide (((Lib.decodeGo s).2 : Int) = s.size) && isNm (Lib.decodeGo s).1)) := rfl
  clear h
  generalize okN s = V at *
  generalize Lib.decodeGo s = D at *
  obtain ⟨c, n⟩ := D
  simp only at CD CN HV
  generalize isNm (c : Int) = N at *
  go_enter Tryz.func37, Tryz.ntmps37
  go_wp2_with fail
  refine CD.out.mono ?_
  rintro e w1 ⟨rfl, hb⟩
  have HB := hidMk hb
  clear hb CD
  by_cases h1 : (n : Int) = s.size
  · have q1 : ((n : Int) == (s.size : Int)) = true := by simpa using h1
    have hv : V = N := by rw [HV.out]; simp [h1]
    subst hv
    clear HV h1
    go_wp2_with (go_at_call 65; refine (CN.out _).mono ?_; rintro e w2 ⟨rfl, rfl⟩)
    exact bodyPost_ret (v := .tuple #[.int .i32 c, .bool V]) (by simp [results, Tryz.results37, go_sem]) rfl ⟨rfl, HB.out⟩
  · have q1 : ((n : Int) == (s.size : Int)) = false := by simpa using h1
    have hv : V = false := by rw [HV.out]; simp [h1]
    subst hv
    clear HV h1
    go_wp2_with fail
    exact bodyPost_ret (v := .tuple #[.int .i32 c, .bool false]) (by simp [results, Tryz.results37, go_sem]) rfl ⟨rfl, HB.out⟩
end Go.Proofs.YtodabmkcihafhaaGreatDoor

/- Let: a name's number in the map; hasRoom, with. -/
namespace Go.Proofs.YtodabmkcihafhaaGreatDoor
open Go.RowKit
set_option linter.unusedVariables false
def putN : List (Int × Num) → Int → Num → List (Int × Num)
  | [], c, x => [(c, x)]
  | p :: r, c, x => if p.1 = c then (c, x) :: r else p :: putN r c x
theorem put_ok {names : List (Int × Num)} (h : ∀ q ∈ names, q.2.Ok) (c : Int) {x : Num} (hx : x.Ok) : ∀ q ∈ putN names c x, q.2.Ok := by
  induction names with
  | nil => intro q hq; simp [putN] at hq; subst hq; exact hx
  | cons p r ih =>
    intro q hq
    unfold putN at hq
    split at hq
    · simp at hq
      rcases hq with rfl | hq
      · exact hx
      · exact h q (by simp [hq])
    · simp at hq
      rcases hq with rfl | hq
      · exact h _ (by simp)
      · exact ih (fun q hq => h q (by simp [hq])) q hq
theorem put_cases (c : Int) (x : Num) : ∀ (names : List (Int × Num)) (l : List MapEntry) (i : Nat), l.map (fun e => (e.key, e.val)) = names.map (fun p => (Value.int .i32 p.1, nV p.2)) →
    (envOf names c = none ∧ findF names c i = -1 ∧ putN names c x = names ++ [(c, x)] ∧ Instr.findNow (.int .i32) (.int .i32 c) l i = some none) ∨
    ∃ j y, names[j]? = some (c, y) ∧ envOf names c = some y ∧ findF names c i = ((i + j : Nat) : Int) ∧ putN names c x = names.set j (c, x) ∧ Instr.findNow (.int .i32) (.int .i32 c) l i = some (some (i + j, nV y)) := by
  intro names
  induction names with
  | nil =>
    intro l i h
    cases l with
    | nil => exact Or.inl ⟨rfl, rfl, rfl, rfl⟩
    | cons e r => simp at h
  | cons p r ih =>
    intro l i h
    cases l with
    | nil => simp at h
    | cons e q =>
      simp only [List.map_cons, List.cons.injEq, Prod.mk.injEq] at h
      obtain ⟨⟨h1, h2⟩, h3⟩ := h
      by_cases hc : p.1 = c
      · right
        obtain ⟨a, y⟩ := p
        simp only at hc h1 h2
        subst hc
        refine ⟨0, y, rfl, by simp [envOf], by simp [findF], by simp [putN], ?_⟩
        unfold Instr.findNow
        rw [h1, h2]
        have e1 : Instr.sameNow (.int .i32) (.int .i32 a) (.int .i32 a) = some true := by simp [Instr.sameNow]
        rw [e1]
        rfl
      · have e1 : Instr.sameNow (.int .i32) (.int .i32 c) (.int .i32 p.1) = some false := by simp [Instr.sameNow, Ne.symm hc]
        have ef : Instr.findNow (.int .i32) (.int .i32 c) (e :: q) i = Instr.findNow (.int .i32) (.int .i32 c) q (i + 1) := by
          conv => lhs; unfold Instr.findNow
          rw [h1, e1]
        have ee : envOf (p :: r) c = envOf r c := by simp [envOf, hc]
        have eF : findF (p :: r) c i = findF r c (i + 1) := by rw [findF_cons, if_neg hc]
        have eP : putN (p :: r) c x = p :: putN r c x := by rw [putN, if_neg hc]
        rcases ih q (i + 1) h3 with ⟨q1, q2, q3, q4⟩ | ⟨j, y, q1, q2, q3, q4, q5⟩
        · left
          exact ⟨by rw [ee, q1], by rw [eF, q2], by rw [eP, q3]; rfl, by rw [ef, q4]⟩
        · right
          refine ⟨j + 1, y, by simpa using q1, by rw [ee, q2], by rw [eF, q3]; congr 1; omega, by rw [eP, q4]; rfl, ?_⟩
          rw [ef, q5]
          simp
          omega
theorem set_map {names : List (Int × Num)} {es : Array MapEntry} (hE : nmE names es) {j : Nat} {c : Int} {x y : Num} (hj : names[j]? = some (c, y)) :
    nmE (names.set j (c, x)) (es.modify j fun e => { e with key := .int .i32 c, val := nV x }) := by
  unfold nmE at hE ⊢
  apply List.ext_getElem?
  intro k
  have hk := congrArg (·[k]?) hE
  simp only [List.getElem?_map] at hk
  rw [List.getElem?_map, List.getElem?_map, Array.getElem?_toList, Array.getElem?_modify, List.getElem?_set]
  rw [Array.getElem?_toList] at hk
  by_cases hjk : j = k
  · subst hjk
    have hl := (List.getElem?_eq_some_iff.1 hj).1
    rw [hj] at hk
    rw [if_pos rfl, if_pos rfl, if_pos hl]
    cases he : es[j]? with
    | none => rw [he] at hk; simp at hk
    | some e => simp
  · rw [if_neg hjk, if_neg hjk]
    exact hk
theorem push_map {names : List (Int × Num)} {es : Array MapEntry} (hE : nmE names es) (c : Int) (x : Num) (b : Nat) : nmE (names ++ [(c, x)]) (es.push { key := .int .i32 c, val := nV x, born := b }) := by
  unfold nmE at hE ⊢
  simp [hE]
theorem upd_names {w : World} {m clock : Nat} {es : Array MapEntry} {names : List (Int × Num)} (hb : w.heap[m]? = some (.map es clock)) (hE : nmE names es) (c : Int) (x : Num) :
    ∃ es' clock', (Instr.mapUpdate 64 (.map (some m)) (.int .i32 c) (nV x)).run Tryz.prog w = .ok () (w.putObj m (.map es' clock')) ∧ nmE (putN names c x) es' := by
  have hc := MapKept.run_checkKey (P := Tryz.prog) (w := w) (k := .int .i32 c) Tryz.underlying21 (by simp [MapKept.IsKey]) false 9999
  rcases put_cases c x names es.toList 0 hE with ⟨_, _, q3, q4⟩ | ⟨j, y, q1, _, _, q4, q5⟩
  · have hf := MapKept.run_findKey (P := Tryz.prog) (w := w) Tryz.underlying21 q4
    refine ⟨es.push { key := .int .i32 c, val := nV x, born := clock }, clock + 1, ?_, by rw [q3]; exact push_map hE c x clock⟩
    simp [Instr.mapUpdate, run_underlying Tryz.underlying64, MapKept.run_getObj_map hb, hc, hf, put_world hb, Result.andThen]
  · have hf := MapKept.run_findKey (P := Tryz.prog) (w := w) Tryz.underlying21 q5
    have hl : j < es.size := by
      have := congrArg List.length hE
      have h2 := (List.getElem?_eq_some_iff.1 q1).1
      simp at this
      omega
    obtain ⟨e, he⟩ : ∃ e, es[j]? = some e := ⟨es[j], Array.getElem?_eq_getElem hl⟩
    have hek : e.key = .int .i32 c := by
      have := congrArg (·[j]?) hE
      simp only [List.getElem?_map, Array.getElem?_toList, he, q1] at this
      simp at this
      exact this.1
    have hks := MapKept.run_keyThatStays (P := Tryz.prog) (w := w) (d := .int .i32) (k := .int .i32 c) (by simp [MapKept.IsKey])
    refine ⟨es.modify j fun e => { e with key := .int .i32 c, val := nV x }, clock, ?_, by rw [q4]; exact set_map hE q1⟩
    simp [Instr.mapUpdate, run_underlying Tryz.underlying64, MapKept.run_getObj_map hb, hc, hf, he, hek, hks, put_world hb, Result.andThen]
theorem len_names {w : World} {m clock : Nat} {es : Array MapEntry} {names : List (Int × Num)} (hb : w.heap[m]? = some (.map es clock)) (hE : nmE names es) (ty : TypeId) : (Builtin.len_ #[64] ty #[.map (some m)]).run Tryz.prog w = .ok (.int .i64 (names.length : Nat)) w := by
  have : es.size = names.length := by
    have := congrArg List.length hE
    simpa using this
  simp [Builtin.len_, run_underlying Tryz.underlying64, MapKept.run_getObj_map hb, Result.andThen, goInt, this]
set_option maxHeartbeats 1000000 in
set_option maxRecDepth 100000 in
theorem mclone_any (b : Nat) (es : Array MapEntry) (clock : Nat) (w : World) (hb : w.heap[b]? = some (.map es clock)) :
    Calls Tryz.prog 68 #[.map (some b)] w fun e w' => e = .returned (.map (some w.heap.size)) ∧ w' = w.alloc (.map es clock) := by
  have hq := fun w => run_eql_map_nil_sl (P := Tryz.prog) w 64 _ _ (some b) Tryz.underlying64
  go_enter Tryz.func68, Tryz.ntmps68
  go_wp2
  rw [run_callFunc_extern Tryz.func103 (by kernel_rfl) (by kernel_rfl) (by kernel_rfl) (e := Extern.MapsClone.clone) (by kernel_rfl), run_maps_clone_sl w 64 hb]
  simp only [Result.andThen]
  rw [Oper.upon_value]
  go_wp2
  rw [run_typeAssert_map_sl _ 64 20 _ _ _ Tryz.underlying64]
  simp only [Result.andThen]
  rw [Oper.upon_value]
  go_wp2
  go_ret
  exact ⟨rfl, rfl⟩
set_option maxHeartbeats 2000000 in
set_option maxRecDepth 100000 in
theorem hasRoom_any (N : Nat) (aZ aB : Addr) (P m T r : Nat) (names : List (Int × Num)) (c : Int) (w : World) (h : Pw N aZ aB P m T r names w) (hl : names.length ≤ 1000) :
    Calls Tryz.prog 40 #[.pointer (some ⟨P, 0, none⟩), .int .i32 c] w fun e w' => e = .returned (.bool ((envOf names c).isSome || decide (names.length < 8))) ∧ Below w.heap.size w w' := by
  obtain ⟨es, clock, hm, hE⟩ := h.pg.hm
  have lk := run_names hm hE c true
  obtain ⟨p0, p1, _, _⟩ := two_cells h.hP
  have hV : ∃ y : Num, envV names c = nV y := by
    unfold envV
    cases envOf names c with
    | none => exact ⟨⟨⟨0, 0⟩, ⟨0, 0⟩⟩, rfl⟩
    | some x => exact ⟨x, rfl⟩
  obtain ⟨y, hy⟩ := hV
  rw [hy] at lk
  simp only [if_true] at lk
  unfold nV at lk
  have hln := len_names (w := w.alloc (.cells (numC y) 82)) ((Below.heap_alloc _ _ _ (Array.getElem?_eq_some_iff.1 hm).1).trans hm) hE 3
  have hP2 := (Below.heap_alloc w (.cells (numC y) 82) _ (Array.getElem?_eq_some_iff.1 h.hP).1).trans h.hP
  have HB := hidMk (fr_below w (.cells (numC y) 82))
  clear hy hm hE h
  go_enter Tryz.func40, Tryz.ntmps40
  go_upto_region 2 with fail
  clear lk p0 p1
  generalize w.alloc _ = W at *
  obtain ⟨p0, p1, _, _⟩ := two_cells hP2
  clear hP2
  cases he : (envOf names c).isSome with
  | true =>
    go_wp2_with fail
    go_ret
    exact ⟨by rw [he]; rfl, HB.out⟩
  | false =>
    by_cases h8 : names.length < 8
    · have q8 : (names.length : Int) < 8 := by omega
      go_wp2_with fail
      go_ret
      exact ⟨by first | rfl | (rw [he]; simp [h8]), HB.out⟩
    · have q8 : ¬ (names.length : Int) < 8 := by omega
      go_wp2_with fail
      go_ret
      exact ⟨by first | rfl | (rw [he]; simp [h8]), HB.out⟩
set_option maxHeartbeats 2000000 in
set_option maxRecDepth 100000 in
theorem with_any (N : Nat) (aZ aB : Addr) (P m T r : Nat) (names : List (Int × Num)) (c : Int) (x : Num) (w : World) (h : Pw N aZ aB P m T r names w) (hx : x.Ok) :
    Calls Tryz.prog 41 #[.pointer (some ⟨P, 0, none⟩), .int .i32 c, .agg (numC x)] w fun e w' => ∃ P' m' T' r', e = .returned (.pointer (some ⟨P', 0, none⟩)) ∧ Pw N aZ aB P' m' T' r' (putN names c x) w' ∧ Below w.heap.size w w' ∧ w.heap.size ≤ P' ∧ w.heap.size ≤ m' ∧ w.heap.size ≤ T' ∧ w.heap.size ≤ r' := by
  obtain ⟨es, clock, hm, hE⟩ := h.pg.hm
  have hb1 := fr_below w (.cells (numC x) 82)
  have hx1 := heap_alloc_new w (.cells (numC x) 82)
  have hP1 := (hb1.block _ (Array.getElem?_eq_some_iff.1 h.hP).1).trans h.hP
  have hm1 := (hb1.block _ (Array.getElem?_eq_some_iff.1 hm).1).trans hm
  have HS1 := hidMk (h.pg.hS.below hb1 h.pg.hN)
  have HN := hidMk h.pg.hN
  have HNM := hidMk (put_ok h.nm c hx)
  have HE := hidMk hE
  clear h hm hx hE
  go_enter Tryz.func41, Tryz.ntmps41
  go_upto_region 1 with fail
  have hsz : (w.alloc (.cells (numC x) 82)).heap.size = w.heap.size + 1 := by simp
  generalize w.alloc _ = W1 at *
  obtain ⟨p0, p1, _, _⟩ := two_cells hP1
  have HB1 := hidMk hb1
  have HX1 := hidMk hx1
  clear hb1 hx1 hP1
  go_wp2_with fail
  refine (mclone_any m es clock W1 hm1).mono ?_
  rintro e w2 ⟨rfl, rfl⟩
  have hb2 := fr_below W1 (.map es clock)
  have hm2 := heap_alloc_new W1 (.map es clock)
  have hx2 := (hb2.block _ (Array.getElem?_eq_some_iff.1 HX1.out).1).trans HX1.out
  have HS2 := hidMk (HS1.out.below hb2 (by have := HN.out; omega))
  have HB2 := hidMk (HB1.out.trans (hb2.mono HB1.out.size))
  have hsz2 : (W1.alloc (.map es clock)).heap.size = w.heap.size + 2 := by simp; omega
  clear hb2 HX1 HS1 HB1 hm1 p0 p1
  rw [hsz] at hm2 ⊢
  generalize W1.alloc _ = W2 at *
  obtain ⟨es', clock', hup, hE'⟩ := upd_names hm2 HE.out c x
  unfold nV at hup
  obtain ⟨x0, x1, x2, x3⟩ := four_cells hx2
  have hlt : w.heap.size + 1 < W2.heap.size := by omega
  have HB3 : Hid (Below w.heap.size w (W2.putObj (w.heap.size + 1) (.map es' clock'))) := HB2.out.trans ((Below.refl _ W2).grown (grownBy_putObj' _ _ _) (by omega) (fun k e => by cases e; omega))
  have HM3 := hidMk (show (W2.putObj (w.heap.size + 1) (.map es' clock')).heap[w.heap.size + 1]? = some (.map es' clock') from World.putObj_heap_same hlt)
  have HS3 : Hid (Sen N aZ aB (W2.putObj (w.heap.size + 1) (.map es' clock'))) := HS2.out.kept fun j hj => World.putObj_heap_other (by have := HN.out; omega)
  have hsz3 : (W2.putObj (w.heap.size + 1) (.map es' clock')).heap.size = w.heap.size + 2 := by rw [← hsz2]; simp [World.putObj]
  have HE3 := hidMk hE'
  clear hE' hm2 hx2
  go_upto_region 3 with fail
  generalize W2.putObj _ _ = W3 at *
  clear hup x0 x1 x2 x3 HS2 HB2 hsz2 hlt
  go_wp2_with fail
  refine (newPage_any N aZ aB (w.heap.size + 1) (putN names c x) W3 HS3.out (by have := HN.out; omega) ⟨es', clock', HM3.out, HE3.out⟩ HNM.out).mono ?_
  rintro e w4 ⟨rfl, hpw, hb4, _⟩
  rw [hsz3] at hpw
  have HPW := hidMk hpw
  have HB4 := hidMk (HB3.out.trans (hb4.mono HB3.out.size))
  clear hpw hb4
  go_wp2_with fail
  go_ret
  exact ⟨_, _, _, _, rfl, HPW.out, HB4.out, by omega, by omega, by omega, by omega⟩
end Go.Proofs.YtodabmkcihafhaaGreatDoor

/- Near: the document's, and the program's. -/
namespace Go.Proofs.YtodabmkcihafhaaGreatDoor
open Go.RowKit
set_option linter.unusedVariables false

/-- Of what a text comes to, what is told when so many digits are asked for. -/
def tellA (a : Ans) (n : Int) : Ans := match a with | .ok x => if n < 0 ∨ n > 20 then .err 6 0 else .ok x | .err q p => .err q p
def nrRe (a : Ans) (n : Int) : Int := match tellA a n with | .ok x => nrP x.re n.toNat | .err _ _ => 0
def nrIm (a : Ans) (n : Int) : Int := match tellA a n with | .ok x => nrP x.im n.toNat | .err _ _ => 0
theorem valS_num {names : List (Int × Num)} {s : ByteArray} (hn : ∀ q ∈ names, q.2.Ok) {x : Num} (h : valS names s = .ok x) : x.Ok := by
  rcases valS_read names s with ⟨hE, hs, hg, hv⟩ | ⟨hE, p, hp, hv⟩
  · rw [hv] at h
    unfold valT at h
    cases hm : missT (envOf names) (treeT s) with
    | some p => rw [hm] at h; cases h
    | none =>
      rw [hm] at h
      exact (ev_ok (env_ok hn) (treeT s) (top_tree s hg).2.2.1).1 x h
  · rw [hv] at h; cases h

set_option maxHeartbeats 2000000 in
set_option maxRecDepth 100000 in
theorem rnear_any (B : Nat) (names : List (Int × Num)) (s : ByteArray) (n : Int) (w : World) (hl : names.length ≤ 1000) (hok : ∀ p ∈ names, p.2.Ok) (h : NmRow B names w) :
    Calls Tryz.prog 48 #[.pointer (some ⟨B, 0, none⟩), .string s, .int .i64 n] w fun e w' => e = .returned (.tuple #[.int .i64 (nrRe (valS names s) n), .int .i64 (nrIm (valS names s) n), .int .i64 (ansE (tellA (valS names s) n)), .int .i64 (ansP (tellA (valS names s) n))]) ∧ Below w.heap.size w w' := by
  have CN : Hid (Calls Tryz.prog 36 #[.pointer (some ⟨B, 0, none⟩), .string s] w fun e w' => e = .returned (ansV (valS names s)) ∧ Below w.heap.size w w') := by
    have := rnumber_any B names s w hl hok h
    rw [refV_ans] at this
    exact this
  have HX := hidMk (fun x (hv : valS names s = .ok x) => valS_num hok hv)
  have HVS := hidMk (valS_cases names s hok)
  clear hl hok h
  go_enter Tryz.func48, Tryz.ntmps48
  go_wp2_with fail
  refine CN.out.mono ?_
  rintro e w1 ⟨rfl, hb1⟩
  rcases HVS.out with ⟨x, hv⟩ | ⟨q, p, hv, hq⟩
  · have hx := HX.out x hv
    rw [hv]
    have e1 : ansV (.ok x) = .tuple #[.agg (numC x), .int .i64 0, .int .i64 0] := rfl
    rw [e1]
    go_upto_region 2 with fail
    have hx2 := heap_alloc_new w1 (.cells (numC x) 92)
    have hb2 := hb1.trans ((fr_below w1 (.cells (numC x) 92)).mono hb1.size)
    generalize w1.alloc _ = W2 at *
    generalize w1.heap.size = b10 at *
    by_cases hr : n < 0 ∨ n > 20
    · have HV : Hid (nrRe (valS names s) n = 0 ∧ nrIm (valS names s) n = 0 ∧ ansE (tellA (valS names s) n) = 6 ∧ ansP (tellA (valS names s) n) = 0) := by
        have ht : tellA (valS names s) n = .err 6 0 := by
          unfold tellA
          rw [hv]
          exact if_pos hr
        unfold nrRe nrIm
        rw [ht]
        exact ⟨rfl, rfl, rfl, rfl⟩
      clear hv hx e1 CN HX HVS
      go_wp2_with fail
      all_goals exact bodyPost_ret (v := .tuple #[.int .i64 0, .int .i64 0, .int .i64 6, .int .i64 0]) (by simp [results, Tryz.results48, go_sem]) rfl ⟨by rw [HV.out.1, HV.out.2.1, HV.out.2.2.1, HV.out.2.2.2], hb2⟩
    · have hn0 : 0 ≤ n ∧ n ≤ 20 := by omega
      obtain ⟨k, rfl⟩ : ∃ k : Nat, n = k := ⟨n.toNat, by omega⟩
      have HV : Hid (nrRe (valS names s) k = nrP x.re k ∧ nrIm (valS names s) k = nrP x.im k ∧ ansE (tellA (valS names s) k) = 0 ∧ ansP (tellA (valS names s) k) = 0) := by
        have ht : tellA (valS names s) k = .ok x := by
          unfold tellA
          rw [hv]
          exact if_neg hr
        unfold nrRe nrIm
        rw [ht]
        exact ⟨rfl, rfl, rfl, rfl⟩
      have C1 := hidMk (fun W => nearest_any x.re k W hx.1 (by omega))
      have C2 := hidMk (fun W => nearest_any x.im k W hx.2 (by omega))
      generalize nrP x.re k = A at *
      generalize nrP x.im k = D at *
      clear hv hx e1 CN HX HVS hr
      go_upto_region 6 with fail
      have HX2 := hidMk hx2
      have HB2 := hidMk hb2
      clear hx2 hb2
      refine region_inv (nt := 38) _
        (fun j v => match j with
          | 0 => v = .pointer (some ⟨b10, 0, none⟩)
          | 1 => v = .agg #[.int .i64 x.re.n, .int .i64 x.re.d]
          | 2 => v = .int .i64 k
          | 3 => v = .int .i64 A
          | 4 => v = .pointer (some ⟨b10, 2, none⟩)
          | 5 => v = .agg #[.int .i64 x.im.n, .int .i64 x.im.d]
          | 6 => v = .int .i64 k
          | 7 => v = .int .i64 D
          | 8 => v = .int .i64 A
          | 9 => v = .int .i64 D
          | 10 => v = .int .i64 0
          | 11 => v = .int .i64 0
          | _ => True)
        (fun b u w' => Hid (w'.heap[b10]? = some (.cells (numC x) 92 (0, 0)) ∧ Below w.heap.size w w'))
        (act_of rfl rfl) (by kernel_rfl) (by kernel_rfl) (by kernel_rfl) ⟨HX2.out, HB2.out.drew⟩ ?_ ?_
      · intro i o b u w' ho hbi hall hU hW K hK
        have hA : actOf 38 u = ⟨#[u 0, u 1, u 2, u 3, u 4, u 5, u 6, u 7, u 8, u 9, u 10, u 11, u 12, u 13, u 14, u 15, u 16, u 17, u 18, u 19, u 20, u 21, u 22, u 23, u 24, u 25, u 26, u 27, u 28, u 29, u 30, u 31, u 32, u 33, u 34, u 35, u 36, u 37], []⟩ := rfl
        rw [hA] at hK ⊢
        have c2 : u 2 = .int .i64 k := hU.oldB 2 (by kernel_rfl)
        have c10 : u 10 = .pointer (some ⟨b10, 0, none⟩) := hU.oldB 10 (by kernel_rfl)
        have got := hU.got
        have HW := hW
        have HKK := hidMk hK
        clear hU hA hK hW
        obtain ⟨x0, x1, x2, x3⟩ := four_cells HW.out.1
        rcases i with _ | _ | _ | _ | _ | _ | _ | _ | _ | _ | _ | _ | i
        · cases ho
          go_simp
          exact HKK.out _ _ _ (by rw [c2, c10]; rfl) (fun _ => rfl) ⟨HW.out.1, HW.out.2⟩
        · cases ho
          have g30 : u 30 = .pointer (some ⟨b10, 0, none⟩) := got 0 30 rfl (hall ⟨0, .data⟩ (by simp) rfl)
          go_simp
          exact HKK.out _ _ _ (by rw [c2, c10, g30]; rfl) (fun _ => rfl) ⟨HW.out.1, HW.out.2⟩
        · cases ho
          go_simp
          exact HKK.out _ _ _ (by rw [c2, c10]; rfl) (fun _ => rfl) ⟨HW.out.1, HW.out.2⟩
        · cases ho
          have g31 : u 31 = .agg #[.int .i64 x.re.n, .int .i64 x.re.d] := got 1 31 rfl (hall ⟨1, .data⟩ (by simp) rfl)
          have g32 : u 32 = .int .i64 k := got 2 32 rfl (hall ⟨2, .data⟩ (by simp) rfl)
          go_simp
          refine (C1.out _).mono ?_
          rintro e w9 ⟨rfl, hb9⟩
          exact HKK.out _ _ _ (by rw [c2, c10, g31, g32]; rfl) (fun _ => rfl) ⟨(hb9.block _ (Array.getElem?_eq_some_iff.1 HW.out.1).1).trans HW.out.1, HW.out.2.trans (hb9.mono HW.out.2.size)⟩
        · cases ho
          go_simp
          exact HKK.out _ _ _ (by rw [c2, c10]; rfl) (fun _ => rfl) ⟨HW.out.1, HW.out.2⟩
        · cases ho
          have g34 : u 34 = .pointer (some ⟨b10, 2, none⟩) := got 4 34 rfl (hall ⟨4, .data⟩ (by simp) rfl)
          go_simp
          exact HKK.out _ _ _ (by rw [c2, c10, g34]; rfl) (fun _ => rfl) ⟨HW.out.1, HW.out.2⟩
        · cases ho
          go_simp
          exact HKK.out _ _ _ (by rw [c2, c10]; rfl) (fun _ => rfl) ⟨HW.out.1, HW.out.2⟩
        · cases ho
          have g35 : u 35 = .agg #[.int .i64 x.im.n, .int .i64 x.im.d] := got 5 35 rfl (hall ⟨5, .data⟩ (by simp) rfl)
          have g36 : u 36 = .int .i64 k := got 6 36 rfl (hall ⟨6, .data⟩ (by simp) rfl)
          go_simp
          refine (C2.out _).mono ?_
          rintro e w9 ⟨rfl, hb9⟩
          exact HKK.out _ _ _ (by rw [c2, c10, g35, g36]; rfl) (fun _ => rfl) ⟨(hb9.block _ (Array.getElem?_eq_some_iff.1 HW.out.1).1).trans HW.out.1, HW.out.2.trans (hb9.mono HW.out.2.size)⟩
        · cases ho
          have g33 : u 33 = .int .i64 A := got 3 33 rfl (hall ⟨3, .data⟩ (by simp) rfl)
          go_simp
          exact HKK.out _ _ _ (by rw [c2, c10, g33]; rfl) (fun _ => rfl) ⟨HW.out.1, HW.out.2⟩
        · cases ho
          have g37 : u 37 = .int .i64 D := got 7 37 rfl (hall ⟨7, .data⟩ (by simp) rfl)
          go_simp
          exact HKK.out _ _ _ (by rw [c2, c10, g37]; rfl) (fun _ => rfl) ⟨HW.out.1, HW.out.2⟩
        · cases ho
          go_simp
          exact HKK.out _ _ _ (by rw [c2, c10]; rfl) (fun _ => rfl) ⟨HW.out.1, HW.out.2⟩
        · cases ho
          go_simp
          exact HKK.out _ _ _ (by rw [c2, c10]; rfl) (fun _ => rfl) ⟨HW.out.1, HW.out.2⟩
        · simp at ho
      · intro b u w' hall hU hW
        have e6 : u 6 = .int .i64 A := hU.got 8 6 rfl (hall 8 (by decide))
        have e7 : u 7 = .int .i64 D := hU.got 9 7 rfl (hall 9 (by decide))
        have e8 : u 8 = .int .i64 0 := hU.got 10 8 rfl (hall 10 (by decide))
        have e9 : u 9 = .int .i64 0 := hU.got 11 9 rfl (hall 11 (by decide))
        have hA : actOf 38 u = ⟨#[u 0, u 1, u 2, u 3, u 4, u 5, u 6, u 7, u 8, u 9, u 10, u 11, u 12, u 13, u 14, u 15, u 16, u 17, u 18, u 19, u 20, u 21, u 22, u 23, u 24, u 25, u 26, u 27, u 28, u 29, u 30, u 31, u 32, u 33, u 34, u 35, u 36, u 37], []⟩ := rfl
        rw [hA, e6, e7, e8, e9]
        have HW := hidMk hW.out
        clear hU hW hall e6 e7 e8 e9 hA C1 C2
        go_wp2_with fail
        exact bodyPost_ret (v := .tuple #[.int .i64 A, .int .i64 D, .int .i64 0, .int .i64 0]) (by simp [results, Tryz.results48, go_sem]) rfl ⟨by rw [HV.out.1, HV.out.2.1, HV.out.2.2.1, HV.out.2.2.2], HW.out.2⟩
  · have HV : Hid (nrRe (valS names s) n = 0 ∧ nrIm (valS names s) n = 0 ∧ ansE (tellA (valS names s) n) = q ∧ ansP (tellA (valS names s) n) = p) := by
      unfold nrRe nrIm
      rw [hv]
      exact ⟨rfl, rfl, rfl, rfl⟩
    rw [hv]
    have e1 : ansV (.err q p) = .tuple #[.agg (numC ⟨⟨0, 0⟩, ⟨0, 0⟩⟩), .int .i64 q, .int .i64 p] := rfl
    rw [e1]
    have hne : (q != 0) = true := by simpa using hq
    clear hv hq e1 CN HX HVS
    go_upto_region 2 with fail
    have hb2 := hb1.trans ((fr_below w1 (.cells (numC ⟨⟨0, 0⟩, ⟨0, 0⟩⟩) 92)).mono hb1.size)
    generalize w1.alloc _ = W2 at *
    go_wp2_with fail
    exact bodyPost_ret (v := .tuple #[.int .i64 0, .int .i64 0, .int .i64 q, .int .i64 p]) (by simp [results, Tryz.results48, go_sem]) rfl ⟨by rw [HV.out.1, HV.out.2.1, HV.out.2.2.1, HV.out.2.2.2], hb2⟩
end Go.Proofs.YtodabmkcihafhaaGreatDoor

import Derived.ChangeKeysEq
import Derived.Test.YtodabmkcihafhaaGreatDoorRows
import Derived.Test.YtodabmkcihafhaaGreatDoorCards
import Derived.Test.YtodabmkcihafhaaGreatDoorTie
import Derived.ProofKit
import Derived.ChangeSame
import Derived.ChangeVars
import Derived.JoinedOf
import Derived.RowKit
import Derived.LaidLaws
import Derived.LaidHandle
import Derived.Stop.LaidTwo
import Derived.OpenShut
import Derived.ShutString
import Derived.SevenTiedAt
import Derived.Lay
import Derived.Test.YtodabmkcihafhaaGreatDoorQ20
import Derived.Test.YtodabmkcihafhaaGreatDoorQ21
import Derived.Test.YtodabmkcihafhaaGreatDoorQ17
import Derived.Test.YtodabmkcihafhaaGreatDoorQ2

/- The law's pair of books; its values; the law Values. -/
namespace Go.Proofs.YtodabmkcihafhaaGreatDoor
open Go.RowKit
set_option linter.unusedVariables false

theorem refV_ans (names : List (Int × Num)) (s : ByteArray) : refV names s = ansV (valS names s) := by
  unfold refV
  rcases valS_read names s with ⟨hE, hs, hg, hv⟩ | ⟨hE, p, hp, hv⟩
  · rw [if_neg (by simpa using hE), hv]
    obtain ⟨h1, h2, h3, hi, h4⟩ := top_tree s hg
    obtain ⟨m1, m2⟩ := missL_tree (envOf names) (treeT s) 0 0 hi (-1) h3 h4 (Or.inl rfl)
    rw [h1, m1, if_pos rfl]
    unfold valT
    cases hm : missT (envOf names) (treeT s) with
    | some p =>
      simp only
      rw [if_pos (Int.natCast_nonneg p)]
      rfl
    | none =>
      simp only
      rw [if_neg (by decide)]
      have ht := runL_tree (envOf names) (treeT s) [] h3
      cases hv : evT (envOf names) (treeT s) with
      | ok x =>
        rw [hv] at ht
        obtain ⟨ws, h5, _⟩ := ht
        simp only [List.length_nil, List.nil_append] at h5
        rw [h5]
        unfold runV
        simp only [List.getLast?_append, List.getLast?_singleton]
        rfl
      | err q p =>
        rw [hv] at ht
        simp only [List.length_nil] at ht
        rw [ht]
        rfl
  · rw [if_pos hE, hv, hp]
    rfl

/-! ### A pair of books -/
abbrev prV (K B : Nat) : Value := .agg #[.pointer (some ⟨K, 0, none⟩), .pointer (some ⟨B, 0, none⟩)]
/-- A store into a block that is no book's. -/
theorem Bk.store {N : Nat} {aZ aB : Addr} {K P m T r : Nat} {names : List (Int × Num)} {w : World} (h : Bk N aZ aB K P m T r names w) {X : Nat} {c : Array Value} {t : TypeId} {f : Nat × Nat} (hX : w.heap[X]? = some (.cells c t f)) (ht : t ≠ 73 ∧ t ≠ 118 ∧ t ≠ 164) (hN : N ≤ X) (o : Nat) (v : Value) : Bk N aZ aB K P m T r names (w.setCell ⟨X, o, none⟩ v) := by
  have k : ∀ k, k ≠ X → (w.setCell ⟨X, o, none⟩ v).heap[k]? = w.heap[k]? := fun k hk => Below.heap_setCell _ _ _ _ hk
  obtain ⟨es, clock, m1, m2⟩ := h.pw.pg.hm
  obtain ⟨es', clock', r1, r2⟩ := h.pw.tb.hr
  have nm : m ≠ X := fun e => by rw [e, hX] at m1; cases m1
  have nr : r ≠ X := fun e => by rw [e, hX] at r1; cases r1
  have nK : K ≠ X := fun e => by
    have := h.hK
    rw [e, hX] at this
    simp at this
    exact ht.1 this.2.1
  have nP : P ≠ X := fun e => by
    have := h.pw.hP
    rw [e, hX] at this
    simp at this
    exact ht.2.1 this.2.1
  have nT : T ≠ X := fun e => by
    have := h.pw.tb.ht
    rw [e, hX] at this
    simp at this
    exact ht.2.2 this.2.1
  have hP' := (k P nP).trans h.pw.hP
  refine ⟨(k K nK).trans h.hK, ⟨h.pw.pg.hS.kept fun j hj => k j (by omega), ?_, (two_cells hP').1, es, clock, (k m nm).trans m1, m2⟩, hP', ⟨(k T nT).trans h.pw.tb.ht, es', clock', (k r nr).trans r1, r2⟩, h.pw.mr, h.pw.rN, h.pw.nm⟩
  have := h.pw.pg.hN
  have := ((Below.refl 0 w).setCell (p := ⟨X, o, none⟩) (Nat.zero_le _) v).size
  omega
theorem nm_nil {B : Nat} {w : World} {t : TypeId} (h : w.heap[B]? = some (.cells #[.slice none 0 0] t (0, 0))) : NmRow B [] w := ⟨_, one_cell h, Or.inl ⟨rfl, rfl⟩⟩
set_option maxHeartbeats 1000000 in
theorem pair_any (N : Nat) (aZ aB : Addr) (w : World) (hS : Sen N aZ aB w) (hN : N ≤ w.heap.size) :
    Calls Tryz.prog 16 #[] w fun e w' => ∃ K P m T r B, e = .returned (.tuple #[prV K B, .bool true]) ∧ Bk N aZ aB K P m T r [] w' ∧ NmRow B [] w' ∧ B ≠ r ∧ w.heap.size ≤ r ∧ w.heap.size ≤ B ∧ w.heap.size ≤ K ∧ w.heap.size ≤ P ∧ w.heap.size ≤ T ∧ w.heap.size ≤ m ∧ Below w.heap.size w w' := by
  have h0 := heap_alloc_new w (.cells #[.pointer none, .pointer none] 34)
  have hb0 := fr_below w (.cells #[.pointer none, .pointer none] 34)
  have C1 := new_any N aZ aB (w.alloc (.cells #[.pointer none, .pointer none] 34)) (hS.alloc hN _) (by simp; omega)
  simp only [World.size_alloc] at C1
  have HS := hidMk hN
  clear hS hN
  go_enter Tryz.func16, Tryz.ntmps16
  go_wp2_with fail
  refine C1.mono ?_
  rintro e w' ⟨rfl, hbk, hb⟩
  clear C1
  have h1 := (hb.block w.heap.size (by omega)).trans h0
  have hb1 := hb0.trans (hb.mono (by omega))
  have h2 := (Below.heap_alloc w' (.cells #[.slice none 0 0] 88) _ (Array.getElem?_eq_some_iff.1 h1).1).trans h1
  have hbk2 := hbk.below (fr_below w' (.cells #[.slice none 0 0] 88))
  have hB := heap_alloc_new w' (.cells #[.slice none 0 0] 88)
  have hb2 := hb1.alloc hb1.size (.cells #[.slice none 0 0] 88)
  have hlt := (Array.getElem?_eq_some_iff.1 hbk.hK).1
  clear h0 hb0 h1 hbk hb
  generalize w.alloc _ = W0 at *
  obtain ⟨c0, c1, f0, f1⟩ := two_cells h2
  go_wp2_with fail
  have hbk3 := (hbk2.store h2 ⟨by decide, by decide, by decide⟩ HS.out 0 (.pointer (some ⟨w.heap.size + 1 + 4, 0, none⟩)))
  have h3 : ((w'.alloc (.cells #[.slice none 0 0] 88)).setCell ⟨w.heap.size, 0, none⟩ (.pointer (some ⟨w.heap.size + 1 + 4, 0, none⟩))).heap[w.heap.size]? = some (.cells #[.pointer (some ⟨w.heap.size + 1 + 4, 0, none⟩), .pointer none] 34 (0, 0)) := by
    simp [World.setCell, Array.getElem?_modify, h2]
  have hbk4 := (hbk3.store h3 ⟨by decide, by decide, by decide⟩ HS.out 1 (.pointer (some ⟨w'.heap.size, 0, none⟩)))
  have h4 := two_set h2 (.pointer (some ⟨w.heap.size + 1 + 4, 0, none⟩)) (.pointer (some ⟨w'.heap.size, 0, none⟩))
  have hne : w'.heap.size ≠ w.heap.size := by omega
  have hB4 := (two_other hne (.pointer (some ⟨w.heap.size + 1 + 4, 0, none⟩)) (.pointer (some ⟨w'.heap.size, 0, none⟩))).trans hB
  have hb4 := (hb2.setCell (p := ⟨w.heap.size, 0, none⟩) (Nat.le_refl _) (.pointer (some ⟨w.heap.size + 1 + 4, 0, none⟩))).setCell (p := ⟨w.heap.size, 1, none⟩) (Nat.le_refl _) (.pointer (some ⟨w'.heap.size, 0, none⟩))
  clear hbk2 hbk3 h3 h2 hB hb2 c0 c1 f0 f1
  generalize ((w'.alloc _).setCell _ _).setCell _ _ = W5 at *
  obtain ⟨c0, c1, _, _⟩ := two_cells h4
  exact bodyPost_ret (v := .tuple #[prV (w.heap.size + 1 + 4) w'.heap.size, .bool true]) (by simp [results, Tryz.results16, go_sem, c0, c1]) rfl ⟨_, _, _, _, _, _, rfl, hbk4, nm_nil hB4, by omega, by omega, by omega, by omega, by omega, by omega, by omega, hb4⟩
end Go.Proofs.YtodabmkcihafhaaGreatDoor

/- Arrays of four numbers, held against one another. -/
namespace Go.Proofs.YtodabmkcihafhaaGreatDoor
open Go.RowKit
theorem eq_int (d : Nat) (a b : Int) (W : World) : (Op.equalIn (d + 1) 3 (.int .i64 a) (.int .i64 b)).run Tryz.prog W = .ok (a == b) W := by
  simp [Op.equalIn, run_underlying Tryz.underlying3, Result.andThen]
theorem part_int {cs : Array Value} {k : Nat} {v : Value} (h : cs[k]? = some v) (W : World) : (part 3 cs k).run Tryz.prog W = .ok v W := by
  simp [part, Tryz.isAgg3, h, Result.andThen]
theorem eq_step {xs ys : Array Value} {k d : Nat} {is : List Nat} {a b : Int} {r : Bool} (hx : xs[k]? = some (.int .i64 a)) (hy : ys[k]? = some (.int .i64 b)) (W : World) (h : (Op.eqItems (d + 1) 3 1 xs ys is).run Tryz.prog W = .ok r W) : (Op.eqItems (d + 1) 3 1 xs ys (k :: is)).run Tryz.prog W = .ok (a == b && r) W := by
  simp only [Op.eqItems, Nat.mul_one, Sem.run_bind, part_int hx, part_int hy, Result.andThen_ok, eq_int]
  cases a == b with
  | true => simpa using h
  | false => simp
theorem eq4 (a b c d a' b' c' d' : Int) (W : World) : (Op.equalIn 10000 27 (.agg #[.int .i64 a, .int .i64 b, .int .i64 c, .int .i64 d]) (.agg #[.int .i64 a', .int .i64 b', .int .i64 c', .int .i64 d'])).run Tryz.prog W = .ok (a == a' && (b == b' && (c == c' && (d == d' && true)))) W := by
  obtain ⟨i, hi⟩ : ∃ i, Tryz.prog.info? 3 = some i := Option.isSome_iff_exists.1 (by kernel_rfl)
  have hc : Tryz.prog.cellsOf 3 = 1 := by kernel_rfl
  rw [show (10000 : Nat) = 9999 + 1 from rfl, run_equalIn_array W 9999 _ _ Tryz.underlying27 hi, hc]
  have hr : List.range 4 = [0, 1, 2, 3] := rfl
  rw [hr]
  exact eq_step rfl rfl W (eq_step rfl rfl W (eq_step rfl rfl W (eq_step rfl rfl W (by simp [Op.eqItems]))))
theorem eq4_same (a b c d : Int) (W : World) : (Op.equalIn 10000 27 (.agg #[.int .i64 a, .int .i64 b, .int .i64 c, .int .i64 d]) (.agg #[.int .i64 a, .int .i64 b, .int .i64 c, .int .i64 d])).run Tryz.prog W = .ok true W := by
  rw [eq4]; simp
end Go.Proofs.YtodabmkcihafhaaGreatDoor

/- The law's values, and the law Values. -/
namespace Go.Proofs.YtodabmkcihafhaaGreatDoor
open Go.RowKit
set_option linter.unusedVariables false

theorem NmRow.kept {B r : Nat} {names : List (Int × Num)} {w w' : World} (h : NmRow B names w) (g : Kp (· = r) w w') (hr : ∃ es clock, w.heap[r]? = some (.map es clock)) : NmRow B names w' := by
  obtain ⟨es, clock, hm⟩ := hr
  have k : ∀ a v, w.cell? a = some v → w'.cell? a = some v := fun a v hc => by
    have hlt := World.block_lt_of_cell? _ _ hc
    have hne : a.block ≠ r := by
      intro e
      unfold World.cell? at hc
      rw [e, hm] at hc
      cases hc
    rw [World.cell?_of_block (w := w) (g.block a.block hlt hne)]
    exact hc
  obtain ⟨v, hv, hc⟩ := h
  refine ⟨v, k _ _ hv, ?_⟩
  rcases hc with hc | ⟨g1, cap, h1, h2, h3, h4⟩
  · exact Or.inl hc
  · refine Or.inr ⟨g1, cap, h1, h2, h3, fun i c x hi => ?_⟩
    obtain ⟨q1, q2, q3, q4, q5⟩ := h4 i c x hi
    exact ⟨k _ _ q1, k _ _ q2, k _ _ q3, k _ _ q4, k _ _ q5⟩
/-- A pair of books: the program's (block K), the document's (block B). -/
structure Pr (N : Nat) (aZ aB : Addr) (K P m T r B : Nat) (names : List (Int × Num)) (w : World) : Prop where
  bk : Bk N aZ aB K P m T r names w
  nr : NmRow B names w
  nl : names.length ≤ 1000
theorem Pr.below {N : Nat} {aZ aB : Addr} {K P m T r B : Nat} {names : List (Int × Num)} {w w' : World} (h : Pr N aZ aB K P m T r B names w) (g : Below w.heap.size w w') : Pr N aZ aB K P m T r B names w' := ⟨h.bk.below g, h.nr.below g, h.nl⟩
theorem Pr.kept {N : Nat} {aZ aB : Addr} {K P m T r B : Nat} {names : List (Int × Num)} {w w' : World} (h : Pr N aZ aB K P m T r B names w) (g : Kp (· = r) w w') (ht : Tb T r names w') : Pr N aZ aB K P m T r B names w' := by
  obtain ⟨es, clock, h1, h2⟩ := h.bk.pw.tb.hr
  exact ⟨h.bk.kept g ht, h.nr.kept g ⟨es, clock, h1⟩, h.nl⟩
/-- The law's world: the pair's box. -/
structure LV (N : Nat) (aZ aB : Addr) (K P m T r B : Nat) (names : List (Int × Num)) (w : World) (W : World) : Prop where
  pr : Pr N aZ aB K P m T r B names W
  hx : W.heap[w.heap.size]? = some (.cells #[.pointer (some ⟨K, 0, none⟩), .pointer (some ⟨B, 0, none⟩)] 34 (0, 0))
  hr : r < w.heap.size
  hk : Kp (· = r) w W
section
variable {N : Nat} {aZ aB : Addr} {K P m T r B : Nat} {names : List (Int × Num)} {w W W' : World}
theorem LV.below (h : LV N aZ aB K P m T r B names w W) (g : Below W.heap.size W W') : LV N aZ aB K P m T r B names w W' :=
  ⟨h.pr.below g, (g.block _ (Array.getElem?_eq_some_iff.1 h.hx).1).trans h.hx, h.hr, h.hk.below g⟩
theorem LV.kept (h : LV N aZ aB K P m T r B names w W) (g : Kp (· = r) W W') (ht : Tb T r names W') : LV N aZ aB K P m T r B names w W' :=
  ⟨h.pr.kept g ht, (g.block _ (Array.getElem?_eq_some_iff.1 h.hx).1 (by have := h.hr; omega)).trans h.hx, h.hr, h.hk.trans g⟩
theorem LV.new (h : Pr N aZ aB K P m T r B names w) : LV N aZ aB K P m T r B names w (w.alloc (.cells #[.pointer (some ⟨K, 0, none⟩), .pointer (some ⟨B, 0, none⟩)] 34)) := by
  obtain ⟨es, clock, h1, _⟩ := h.bk.pw.tb.hr
  exact ⟨h.below (fr_below w _), heap_alloc_new w _, (Array.getElem?_eq_some_iff.1 h1).1, (Kp.refl _ w).alloc _⟩
end

theorem tk_set4 {T r X : Nat} {names : List (Int × Num)} {w W : World} {a b c d : Value} (h : Tb T r names W) (hk : Kp (· = r) w W) (hz : W.heap[X]? = some (.cells #[a, b, c, d] 27 (0, 0))) (hX : w.heap.size ≤ X) (a' b' c' d' : Value) :
    Tb T r names ((((W.setCell ⟨X, 0, none⟩ a').setCell ⟨X, 1, none⟩ b').setCell ⟨X, 2, none⟩ c').setCell ⟨X, 3, none⟩ d') ∧ Kp (· = r) w ((((W.setCell ⟨X, 0, none⟩ a').setCell ⟨X, 1, none⟩ b').setCell ⟨X, 2, none⟩ c').setCell ⟨X, 3, none⟩ d') := by
  obtain ⟨es, clock, h1, h2⟩ := h.hr
  have nT : T ≠ X := fun e => by
    have := h.ht
    rw [e, hz] at this
    simp at this
  have nr : r ≠ X := fun e => by
    rw [e, hz] at h1
    cases h1
  refine ⟨⟨?_, es, clock, ?_, h2⟩, (((hk.setCell (p := ⟨X, 0, none⟩) (Or.inr hX) _).setCell (p := ⟨X, 1, none⟩) (Or.inr hX) _).setCell (p := ⟨X, 2, none⟩) (Or.inr hX) _).setCell (p := ⟨X, 3, none⟩) (Or.inr hX) _⟩
  · rw [Below.heap_setCell _ _ _ _ nT, Below.heap_setCell _ _ _ _ nT, Below.heap_setCell _ _ _ _ nT, Below.heap_setCell _ _ _ _ nT]; exact h.ht
  · rw [Below.heap_setCell _ _ _ _ nr, Below.heap_setCell _ _ _ _ nr, Below.heap_setCell _ _ _ _ nr, Below.heap_setCell _ _ _ _ nr]; exact h1
theorem four_other {w : World} {X k : Nat} (h : k ≠ X) (a b c d : Value) : ((((w.setCell ⟨X, 0, none⟩ a).setCell ⟨X, 1, none⟩ b).setCell ⟨X, 2, none⟩ c).setCell ⟨X, 3, none⟩ d).heap[k]? = w.heap[k]? := by
  rw [Below.heap_setCell _ _ _ _ h, Below.heap_setCell _ _ _ _ h, Below.heap_setCell _ _ _ _ h, Below.heap_setCell _ _ _ _ h]
set_option maxHeartbeats 4000000 in
set_option maxRecDepth 100000 in
theorem values_any (N : Nat) (aZ aB : Addr) (K P m T r B : Nat) (names : List (Int × Num)) (s : ByteArray) (w : World) (h : Pr N aZ aB K P m T r B names w) :
    Calls Tryz.prog 17 #[prV K B, .string s] w fun e w' => e = .returned (.bool true) ∧ Tb T r names w' ∧ Kp (· = r) w w' := by
  have h0 := LV.new h
  have CV := hidMk (fun W hW => value_any N aZ aB K P m T r names s W hW)
  have CN : Hid (∀ W, NmRow B names W → Calls Tryz.prog 36 #[.pointer (some ⟨B, 0, none⟩), .string s] W fun e w' => e = .returned (ansV (valS names s)) ∧ Below W.heap.size W w') := fun W hW => by
    have := rnumber_any B names s W h.nl h.bk.pw.nm hW
    rw [refV_ans] at this
    exact this
  have HVS := hidMk (valS_cases names s h.bk.pw.nm)
  clear h
  go_enter Tryz.func17, Tryz.ntmps17
  go_upto_region 1 with fail
  generalize w.alloc _ = W at *
  obtain ⟨c0, c1, _, _⟩ := two_cells h0.hx
  have H0 := hidMk h0
  clear h0
  go_wp2_with fail
  refine (CV.out _ H0.out.pr.bk).mono ?_
  rintro e w1 ⟨rfl, ht1, hk1⟩
  have h1 := H0.out.kept hk1 ht1
  clear H0 ht1 hk1 CV c0 c1
  have HA : Hid (∃ (z : Num) (q p : Int), ansV (valS names s) = .tuple #[.agg (numC z), .int .i64 q, .int .i64 p] ∧ (q = 0 ∨ (q ≠ 0 ∧ z = ⟨⟨0, 0⟩, ⟨0, 0⟩⟩))) := by
    rcases HVS.out with ⟨x, hv⟩ | ⟨q, p, hv, hq⟩
    · rw [hv]; exact ⟨x, 0, 0, rfl, Or.inl rfl⟩
    · rw [hv]; exact ⟨_, q, p, rfl, Or.inr ⟨hq, rfl⟩⟩
  obtain ⟨z, q, p, hv, hq⟩ := HA.out
  rw [hv] at CN ⊢
  have HQ := hidMk hq
  clear HA HVS hv hq
  go_upto_region 2 with fail
  have h2 := h1.below (fr_below w1 (.cells (numC z) 27))
  have hx2 := heap_alloc_new w1 (.cells (numC z) 27)
  generalize w1.alloc _ = W2 at *
  generalize w1.heap.size = b5 at *
  obtain ⟨c0, c1, _, _⟩ := two_cells h2.hx
  have H2 := hidMk h2
  have HX2 := hidMk hx2
  clear h1 h2 hx2
  go_wp2_with fail
  refine (CN.out _ H2.out.pr.nr).mono ?_
  rintro e w3 ⟨rfl, hb3⟩
  have h3 := H2.out.below hb3
  have hx3 := (hb3.block _ (Array.getElem?_eq_some_iff.1 HX2.out).1).trans HX2.out
  clear H2 HX2 hb3 CN c0 c1
  go_upto_region 3 with fail
  have h4 := h3.below (fr_below w3 (.cells (numC z) 92))
  have hx4 := (Below.heap_alloc w3 (.cells (numC z) 92) _ (Array.getElem?_eq_some_iff.1 hx3).1).trans hx3
  have hy4 := heap_alloc_new w3 (.cells (numC z) 92)
  generalize w3.alloc _ = W4 at *
  generalize w3.heap.size = b8 at *
  clear h3 hx3
  have C15 := hidMk (fun e W => num_any e W)
  go_upto_region 4 with fail
  have h5 := h4.below (fr_below W4 (.cells #[.int .i64 0, .int .i64 0, .int .i64 0, .int .i64 0] 27))
  have hx5 := (Below.heap_alloc W4 (.cells #[.int .i64 0, .int .i64 0, .int .i64 0, .int .i64 0] 27) _ (Array.getElem?_eq_some_iff.1 hx4).1).trans hx4
  have hy5 := (Below.heap_alloc W4 (.cells #[.int .i64 0, .int .i64 0, .int .i64 0, .int .i64 0] 27) _ (Array.getElem?_eq_some_iff.1 hy4).1).trans hy4
  have hz5 := heap_alloc_new W4 (.cells #[.int .i64 0, .int .i64 0, .int .i64 0, .int .i64 0] 27)
  have hlt : w.heap.size ≤ W4.heap.size ∧ b5 ≠ W4.heap.size := ⟨h4.hk.size, fun e => by have := (Array.getElem?_eq_some_iff.1 hx4).1; omega⟩
  generalize W4.alloc _ = W5 at *
  generalize W4.heap.size = b11 at *
  clear h4 hx4 hy4
  obtain ⟨x0, x1, x2, x3⟩ := four_cells hx5
  obtain ⟨y0, y1, y2, y3⟩ := four_cells hy5
  obtain ⟨z0, z1, z2, z3⟩ := four_cells hz5
  obtain ⟨f0, f1, f2, f3⟩ := four_frozen hz5
  have H5 := hidMk h5
  have HX5 := hidMk hx5
  have HZ5 := hidMk hz5
  have HLT := hidMk hlt
  clear h5 hx5 hy5 hz5 hlt
  rcases HQ.out with rfl | ⟨hq, rfl⟩
  · go_upto_region 6 with fail
    obtain ⟨t6, k6⟩ := tk_set4 H5.out.pr.bk.pw.tb H5.out.hk HZ5.out HLT.out.1 (.int .i64 z.re.n) (.int .i64 z.re.d) (.int .i64 z.im.n) (.int .i64 z.im.d)
    have hx6 := (four_other (w := W5) HLT.out.2 (.int .i64 z.re.n) (.int .i64 z.re.d) (.int .i64 z.im.n) (.int .i64 z.im.d)).trans HX5.out
    have hz6 := four_set HZ5.out (.int .i64 z.re.n) (.int .i64 z.re.d) (.int .i64 z.im.n) (.int .i64 z.im.d)
    generalize (((W5.setCell _ _).setCell _ _).setCell _ _).setCell _ _ = W6 at *
    clear x0 x1 x2 x3 y0 y1 y2 y3 z0 z1 z2 z3 f0 f1 f2 f3
    obtain ⟨x0, x1, x2, x3⟩ := four_cells hx6
    obtain ⟨z0, z1, z2, z3⟩ := four_cells hz6
    have HR : Hid (Tb T r names W6 ∧ Kp (· = r) w W6) := ⟨t6, k6⟩
    clear t6 k6 hx6 hz6 H5 HX5 HZ5
    have heq := eq4_same z.re.n z.re.d z.im.n z.im.d W6
    go_wp2_with (go_at_call 15; refine (C15.out _ _).mono ?_; rintro e w7 ⟨rfl, rfl⟩)
    go_ret
    exact ⟨rfl, HR.out⟩
  · have hne : (q == 0) = false := by simpa using hq
    clear hq y0 y1 y2 y3 f0 f1 f2 f3
    have HR : Hid (Tb T r names W5 ∧ Kp (· = r) w W5) := ⟨H5.out.pr.bk.pw.tb, H5.out.hk⟩
    clear H5 HX5 HZ5
    have heq := eq4_same 0 0 0 0 W5
    go_wp2_with (go_at_call 15; refine (C15.out _ _).mono ?_; rintro e w7 ⟨rfl, rfl⟩)
    go_ret
    exact ⟨rfl, HR.out⟩
end Go.Proofs.YtodabmkcihafhaaGreatDoor

/- The law Values. -/
namespace Go.Proofs.YtodabmkcihafhaaGreatDoor
open Go.RowKit
set_option linter.unusedVariables false

set_option maxHeartbeats 4000000 in
set_option maxRecDepth 100000 in
theorem values_law (N : Nat) (aZ aB : Addr) (s : ByteArray) (w : World) (hS : Sen N aZ aB w) (hN : N ≤ w.heap.size) :
    Calls Tryz.prog 4 #[.string s] w fun e w' => e = .returned (.bool true) ∧ Below w.heap.size w w' := by
  have C1 := hidMk (pair_any N aZ aB w hS hN)
  clear hS hN
  go_enter Tryz.func4, Tryz.ntmps4
  go_wp2_with fail
  refine C1.out.mono ?_
  rintro e w1 ⟨K, P, m, T, r, B, rfl, hbk, hnr, hne, h1, h2, h3, h4, h5, h6, hb⟩
  go_upto_region 2 with fail
  have hp := (Pr.mk hbk hnr (Nat.zero_le _)).below (fr_below w1 (.cells #[.pointer (some ⟨K, 0, none⟩), .pointer (some ⟨B, 0, none⟩)] 34))
  have hb2 := hb.trans ((fr_below w1 (.cells #[.pointer (some ⟨K, 0, none⟩), .pointer (some ⟨B, 0, none⟩)] 34)).mono hb.size)
  have hx := heap_alloc_new w1 (.cells #[.pointer (some ⟨K, 0, none⟩), .pointer (some ⟨B, 0, none⟩)] 34)
  generalize w1.alloc _ = W at *
  generalize w1.heap.size = bx at *
  obtain ⟨c0, c1, _, _⟩ := two_cells hx
  have HP := hidMk hp
  have HB := hidMk hb2
  have HR := hidMk h1
  clear hbk hnr hne h1 h2 h3 h4 h5 h6 hb hp hb2 hx C1
  go_wp2_with fail
  refine (values_any N aZ aB K P m T r B [] s W HP.out).mono ?_
  rintro e w2 ⟨rfl, ht, hk⟩
  go_wp2_with fail
  go_ret
  refine ⟨rfl, HB.out.trans ⟨hk.os, hk.tape, hk.output, hk.size, fun k hkk => hk.block k ?_ ?_⟩⟩
  · have := HB.out.size; omega
  · have := HR.out; omega
end Go.Proofs.YtodabmkcihafhaaGreatDoor

/- What the listed variables give a walk; a world that has them. -/
namespace Go.Proofs.YtodabmkcihafhaaGreatDoor
open Go.ChangeShapes Go.WideShapes Go.ChangeAt Go.RowKit
open Go.ChangeMaps (open_string shut_string)
set_option linter.unusedVariables false

theorem own : ownKnob Tryz.prog.godebug = none := by kernel_rfl
theorem gZ : Tryz.prog.globalNamed "rill/number.ErrZero" = some 2 := by kernel_rfl
theorem gB : Tryz.prog.globalNamed "rill/number.ErrBig" = some 4 := by kernel_rfl
theorem gZt : (Tryz.prog.globals[2]?).map (·.type) = some 180 := by kernel_rfl
theorem gBt : (Tryz.prog.globals[4]?).map (·.type) = some 180 := by kernel_rfl
theorem cellsES : Tryz.prog.cellsOf 307 = 1 := by kernel_rfl
theorem cellsStr : Tryz.prog.cellsOf 9 = 1 := by kernel_rfl
theorem starES : "*" ++ "errors.errorString" = "*errors.errorString" := by decide
theorem rowES (u : TypeId) (h : Tryz.prog.typeName? 3 u = some "*errors.errorString") : u = 285 :=
  typeName_ptr_named (nm := "errors.errorString") (by rw [starES]; kernel_rfl) (by kernel_rfl) (by decide) u (by rw [starES]; exact h)
abbrev lst2 {H : Type} : List (String × DataW H) := [("rill/number.ErrZero", Rows.laid_rill_number_ErrZero), ("rill/number.ErrBig", Rows.laid_rill_number_ErrBig)]
theorem laid_met (os : Os) (args : Array Value) : laidMet Tryz.prog lst2 ((World.laidAll Tryz.prog os lst2).forCall (fun _ _ => 0) ⟨#[], args, []⟩).memory := laidMet_laidAll args (by kernel_rfl) (by kernel_rfl)
/-- The two errors, as the walks want them. -/
theorem sen_of {W : World} (h : laidMet Tryz.prog lst2 W) : ∃ aZ aB, Sen W.heap.size aZ aB W := by
  obtain ⟨a0, a1, s0, s1, c0, c1, t0, t1, hv0, hv1, hc0, hs0, hz0, hc1, hs1, hz1, hne, hb0, hb1⟩ := laid_sentinels2 h gZ gZt gB gBt Tryz.underlying180 rowES Tryz.underlying285 Tryz.underlying307 rfl rfl Tryz.underlying9 cellsES cellsStr
  have z := World.var?_cell gZ hv0 0
  have b := World.var?_cell gB hv1 0
  refine ⟨a0, a1, ⟨by simpa using z, by simpa using b, fun e => hne e.symm, ⟨c0, t0, hb0⟩, ⟨c1, t1, hb1⟩, ?_, (Array.getElem?_eq_some_iff.1 hb0).1, (Array.getElem?_eq_some_iff.1 hb1).1⟩⟩
  have h4 : 4 < W.heap.size := World.block_lt_of_cell? W ⟨4, 0, none⟩ (by simpa using b)
  omega
end Go.Proofs.YtodabmkcihafhaaGreatDoor

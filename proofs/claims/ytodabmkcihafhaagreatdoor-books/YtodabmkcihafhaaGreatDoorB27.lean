import Derived.Maps.AppendAt
import Derived.Test.YtodabmkcihafhaaGreatDoorB23
import Derived.Test.YtodabmkcihafhaaGreatDoorB26
import Derived.Test.YtodabmkcihafhaaGreatDoorB24

/- The law's nears, and the law Nears. -/
namespace Go.Proofs.YtodabmkcihafhaaGreatDoor
open Go.RowKit
set_option linter.unusedVariables false

theorem eq2 (a b a' b' : Int) (W : World) : (Op.equalIn 10000 106 (.agg #[.int .i64 a, .int .i64 b]) (.agg #[.int .i64 a', .int .i64 b'])).run Tryz.prog W = .ok (a == a' && (b == b' && true)) W := by
  obtain ⟨i, hi⟩ : ∃ i, Tryz.prog.info? 3 = some i := Option.isSome_iff_exists.1 (by kernel_rfl)
  have hc : Tryz.prog.cellsOf 3 = 1 := by kernel_rfl
  rw [show (10000 : Nat) = 9999 + 1 from rfl, run_equalIn_array W 9999 _ _ Tryz.underlying106 hi, hc]
  have hr : List.range 2 = [0, 1] := rfl
  rw [hr]
  exact eq_step rfl rfl W (eq_step rfl rfl W (by simp [Op.eqItems]))
theorem eq2_same (a b : Int) (W : World) : (Op.equalIn 10000 106 (.agg #[.int .i64 a, .int .i64 b]) (.agg #[.int .i64 a, .int .i64 b])).run Tryz.prog W = .ok true W := by
  rw [eq2]; simp
set_option maxHeartbeats 4000000 in
set_option maxRecDepth 100000 in
theorem nears_any (N : Nat) (aZ aB : Addr) (K P m T r B : Nat) (names : List (Int × Num)) (s : ByteArray) (n : Int) (w : World) (h : Pr N aZ aB K P m T r B names w) :
    Calls Tryz.prog 28 #[prV K B, .string s, .int .i64 n] w fun e w' => e = .returned (.bool true) ∧ Tb T r names w' ∧ Kp (· = r) w w' := by
  have h0 := LV.new h
  have CV := hidMk (fun W hW => bnear_any N aZ aB K P m T r names s n W hW)
  have CN := hidMk (fun W hW => rnear_any B names s n W h.nl h.bk.pw.nm hW)
  clear h
  generalize nrRe (valS names s) n = a at *
  generalize nrIm (valS names s) n = b at *
  generalize ansE (tellA (valS names s) n) = q at *
  generalize ansP (tellA (valS names s) n) = p at *
  go_enter Tryz.func28, Tryz.ntmps28
  go_upto_region 1 with fail
  generalize w.alloc _ = W at *
  obtain ⟨c0, c1, _, _⟩ := two_cells h0.hx
  have H0 := hidMk h0
  clear h0
  go_wp2_with fail
  refine (CV.out _ H0.out.pr.bk).mono ?_
  rintro e w1 ⟨rfl, ht1, hk1⟩
  have h1 := H0.out.kept hk1 ht1
  clear H0 ht1 hk1 CV c0 c1
  go_upto_region 2 with fail
  have h2 := h1.below (fr_below w1 (.cells #[.int .i64 a, .int .i64 b] 106))
  have hx2 := heap_alloc_new w1 (.cells #[.int .i64 a, .int .i64 b] 106)
  generalize w1.alloc _ = W2 at *
  generalize w1.heap.size = b5 at *
  obtain ⟨c0, c1, _, _⟩ := two_cells h2.hx
  have H2 := hidMk h2
  have HX2 := hidMk hx2
  clear h1 h2 hx2
  go_wp2_with fail
  refine (CN.out _ H2.out.pr.nr).mono ?_
  rintro e w3 ⟨rfl, hb3⟩
  have h3 := H2.out.below hb3
  have hx3 := (hb3.block _ (Array.getElem?_eq_some_iff.1 HX2.out).1).trans HX2.out
  clear H2 HX2 hb3 CN c0 c1
  have C15 := hidMk (fun e W => num_any e W)
  go_upto_region 4 with fail
  have h4 := h3.below (fr_below w3 (.cells #[.int .i64 a, .int .i64 b] 106))
  have hx4 := (Below.heap_alloc w3 (.cells #[.int .i64 a, .int .i64 b] 106) _ (Array.getElem?_eq_some_iff.1 hx3).1).trans hx3
  have hy4 := heap_alloc_new w3 (.cells #[.int .i64 a, .int .i64 b] 106)
  generalize w3.alloc _ = W4 at *
  generalize w3.heap.size = b8 at *
  obtain ⟨x0, x1, _, _⟩ := two_cells hx4
  obtain ⟨y0, y1, _, _⟩ := two_cells hy4
  have HR : Hid (Tb T r names W4 ∧ Kp (· = r) w W4) := ⟨h4.pr.bk.pw.tb, h4.hk⟩
  clear h3 hx3 h4 hx4 hy4
  have heq := eq2_same a b W4
  go_wp2_with (go_at_call 15; refine (C15.out _ _).mono ?_; rintro e w7 ⟨rfl, rfl⟩)
  go_ret
  exact ⟨rfl, HR.out⟩

set_option maxHeartbeats 4000000 in
set_option maxRecDepth 100000 in
theorem nears_law (N : Nat) (aZ aB : Addr) (s : ByteArray) (n : Int) (w : World) (hS : Sen N aZ aB w) (hN : N ≤ w.heap.size) (hn : (Lit.int .i64 n).wf = true) :
    Calls Tryz.prog 10 #[.string s, .int .i64 n] w fun e w' => e = .returned (.bool true) ∧ Below w.heap.size w w' := by
  have C1 := hidMk (pair_any N aZ aB w hS hN)
  clear hS hN hn
  go_enter Tryz.func10, Tryz.ntmps10
  go_wp2_with fail
  refine C1.out.mono ?_
  rintro e w1 ⟨K, P, m, T, r, B, rfl, hbk, hnr, hne, h1, h2, h3, h4, h5, h6, hb⟩
  go_upto_region 2 with fail
  have hp := (Pr.mk hbk hnr (Nat.zero_le _)).below (fr_below w1 (.cells #[.pointer (some ⟨K, 0, none⟩), .pointer (some ⟨B, 0, none⟩)] 34))
  have hb2 := hb.trans ((fr_below w1 (.cells #[.pointer (some ⟨K, 0, none⟩), .pointer (some ⟨B, 0, none⟩)] 34)).mono hb.size)
  have hx := heap_alloc_new w1 (.cells #[.pointer (some ⟨K, 0, none⟩), .pointer (some ⟨B, 0, none⟩)] 34)
  generalize w1.alloc _ = W at *
  generalize w1.heap.size = bx at *
  obtain ⟨c0, c1, _, _⟩ := two_cells hx
  have HP := hidMk hp
  have HB := hidMk hb2
  have HR := hidMk h1
  clear hbk hnr hne h1 h2 h3 h4 h5 h6 hb hp hb2 hx C1
  go_wp2_with fail
  refine (nears_any N aZ aB K P m T r B [] s n W HP.out).mono ?_
  rintro e w2 ⟨rfl, ht, hk⟩
  go_wp2_with fail
  go_ret
  refine ⟨rfl, HB.out.trans ⟨hk.os, hk.tape, hk.output, hk.size, fun k hkk => hk.block k ?_ ?_⟩⟩
  · have := HB.out.size; omega
  · have := HR.out; omega
end Go.Proofs.YtodabmkcihafhaaGreatDoor

/- Books: the document's book in memory; a pair, and the blocks it lies in. -/
namespace Go.Proofs.YtodabmkcihafhaaGreatDoor
open Go.RowKit
set_option linter.unusedVariables false
def nmC : List (Int × Num) → List Value
  | [] => []
  | p :: r => .int .i64 p.1 :: .int .i64 p.2.re.n :: .int .i64 p.2.re.d :: .int .i64 p.2.im.n :: .int .i64 p.2.im.d :: nmC r
theorem nmC_len (l : List (Int × Num)) : (nmC l).length = l.length * 5 := by
  induction l with
  | nil => rfl
  | cons p r ih => simp [nmC, ih]; omega
theorem nmC_app (a b : List (Int × Num)) : nmC (a ++ b) = nmC a ++ nmC b := by
  induction a with
  | nil => rfl
  | cons p r ih => simp [nmC, ih]
theorem nmC_get (l : List (Int × Num)) : ∀ (j : Nat) (p : Int × Num), l[j]? = some p → (nmC l)[j * 5]? = some (.int .i64 p.1) ∧ (nmC l)[j * 5 + 1]? = some (.int .i64 p.2.re.n) ∧ (nmC l)[j * 5 + 2]? = some (.int .i64 p.2.re.d) ∧ (nmC l)[j * 5 + 3]? = some (.int .i64 p.2.im.n) ∧ (nmC l)[j * 5 + 4]? = some (.int .i64 p.2.im.d) := by
  induction l with
  | nil => intro j p h; simp at h
  | cons q l ih =>
    intro j p h
    cases j with
    | zero =>
      simp at h
      subst h
      exact ⟨rfl, rfl, rfl, rfl, rfl⟩
    | succ j =>
      simp at h
      have := ih j p h
      rw [show (j + 1) * 5 = j * 5 + 5 by omega]
      exact this
theorem nmC_set (l : List (Int × Num)) : ∀ (j : Nat) (c : Int) (x y : Num), l[j]? = some (c, y) →
    nmC (l.set j (c, x)) = ((((nmC l).set (j * 5 + 1) (.int .i64 x.re.n)).set (j * 5 + 2) (.int .i64 x.re.d)).set (j * 5 + 3) (.int .i64 x.im.n)).set (j * 5 + 4) (.int .i64 x.im.d) := by
  induction l with
  | nil => intro j c x y h; simp at h
  | cons q l ih =>
    intro j c x y h
    cases j with
    | zero =>
      simp at h
      subst h
      rfl
    | succ j =>
      simp at h
      have := ih j c x y h
      rw [List.set_cons_succ]
      show _ :: _ :: _ :: _ :: _ :: nmC (l.set j (c, x)) = _
      rw [this, show (j + 1) * 5 + 1 = j * 5 + 1 + 5 by omega, show (j + 1) * 5 + 2 = j * 5 + 2 + 5 by omega, show (j + 1) * 5 + 3 = j * 5 + 3 + 5 by omega, show (j + 1) * 5 + 4 = j * 5 + 4 + 5 by omega]
      rfl
/-- The document's book: block B; its names' row v. -/
structure DB (N B : Nat) (names : List (Int × Num)) (v : Value) (W : World) : Prop where
  hB : W.heap[B]? = some (.cells #[v] 88 (0, 0))
  row : W.ownsRow N 141 5 v names.length (nmC names)
section
variable {N : Nat} {aZ aB : Addr} {K P m T r B : Nat} {S : Nat → Prop} {names : List (Int × Num)} {v : Value} {W W' : World}
theorem DB.nm (h : DB N B names v W) : NmRow B names W := by
  refine ⟨v, one_cell h.hB, ?_⟩
  rcases h.row.2 with ⟨h1, h2⟩ | ⟨g, cap, cur, e1, e2, e3, e4, e5, e6, e7⟩
  · exact Or.inl ⟨List.length_eq_zero_iff.1 h2, h1⟩
  · refine Or.inr ⟨g, cap, e1, e4, e5, fun k c x hk => ?_⟩
    have hj := (List.getElem?_eq_some_iff.1 hk).1
    obtain ⟨q0, q1, q2, q3, q4⟩ := nmC_get names k (c, x) hk
    rw [← e7, List.getElem?_take_of_lt (by omega), Array.getElem?_toList] at q0 q1 q2 q3 q4
    refine ⟨?_, ?_, ?_, ?_, ?_⟩ <;> (unfold World.cell?; rw [e3]; assumption)
theorem DB.same (h : DB N B names v W) (hB : W'.heap[B]? = W.heap[B]?) (hg : ∀ g, v.ownBlock = some g → W'.heap[g]? = W.heap[g]?) : DB N B names v W' := by
  refine ⟨hB.trans h.hB, h.row.1, ?_⟩
  rcases h.row.2 with h2 | ⟨g, cap, cur, e1, e2, e3, e4⟩
  · exact Or.inl h2
  · exact Or.inr ⟨g, cap, cur, e1, e2, (hg g (by rw [e1]; rfl)).trans e3, e4⟩
theorem DB.below (h : DB N B names v W) (g : Below W.heap.size W W') : DB N B names v W' := by
  refine h.same (g.block _ (Array.getElem?_eq_some_iff.1 h.hB).1) (fun b hb => ?_)
  rcases h.row.2 with ⟨h2, _⟩ | ⟨b', cap, cur, e1, e2, e3, e4⟩
  · rw [h2] at hb; cases hb
  · rw [e1] at hb
    simp only [Value.ownBlock, Option.some.injEq] at hb
    subst hb
    exact g.block _ (Array.getElem?_eq_some_iff.1 e3).1
theorem Bk.same (h : Bk N aZ aB K P m T r names W) (lo : ∀ j, j < N → W'.heap[j]? = W.heap[j]?) (hs : W.heap.size ≤ W'.heap.size) (k1 : W'.heap[K]? = W.heap[K]?) (k2 : W'.heap[P]? = W.heap[P]?) (k3 : W'.heap[m]? = W.heap[m]?)
    (k4 : W'.heap[T]? = W.heap[T]?) (k5 : W'.heap[r]? = W.heap[r]?) : Bk N aZ aB K P m T r names W' := by
  obtain ⟨es, clock, h1, h2⟩ := h.pw.pg.hm
  obtain ⟨es', clock', h3, h4⟩ := h.pw.tb.hr
  have hP' := k2.trans h.pw.hP
  exact ⟨k1.trans h.hK, ⟨h.pw.pg.hS.kept lo, Nat.le_trans h.pw.pg.hN hs, (two_cells hP').1, es, clock, k3.trans h1, h2⟩, hP', ⟨k4.trans h.pw.tb.ht, es', clock', k5.trans h3, h4⟩, h.pw.mr, h.pw.rN, h.pw.nm⟩
end
/-- A pair of books (blocks K and B) within the blocks S. -/
structure BP (N : Nat) (aZ aB : Addr) (S : Nat → Prop) (K B : Nat) (names : List (Int × Num)) (W : World) : Prop where
  ex : ∃ P m T r v, Bk N aZ aB K P m T r names W ∧ DB N B names v W ∧ S P ∧ S m ∧ S T ∧ S r ∧ ∀ g, v.ownBlock = some g → S g
  sK : S K
  sB : S B
  lt : ∀ k, S k → N ≤ k ∧ k < W.heap.size
  nl : names.length ≤ 1000
  u : U8T W
section
variable {N : Nat} {aZ aB : Addr} {K B : Nat} {S : Nat → Prop} {names : List (Int × Num)} {W W' : World}
theorem BP.kept {S' : Nat → Prop} (h : BP N aZ aB S K B names W) (g : Kp S' W W') (hd : ∀ k, S k → ¬ S' k) (hN : ∀ k, S' k → N ≤ k) : BP N aZ aB S K B names W' := by
  obtain ⟨P, m, T, r, v, h1, h2, sP, sm, sT, sr, sg⟩ := h.ex
  have e : ∀ k, S k → W'.heap[k]? = W.heap[k]? := fun k hk => g.block k (h.lt k hk).2 (hd k hk)
  have lo : ∀ j, j < N → W'.heap[j]? = W.heap[j]? := fun j hj => g.block j (by have := h1.pw.pg.hN; omega) (fun hs => by have := hN j hs; omega)
  exact ⟨⟨P, m, T, r, v, h1.same lo g.size (e K h.sK) (e P sP) (e m sm) (e T sT) (e r sr), h2.same (e B h.sB) (fun g hg => e g (sg g hg)), sP, sm, sT, sr, sg⟩, h.sK, h.sB, fun k hk => ⟨(h.lt k hk).1, Nat.lt_of_lt_of_le (h.lt k hk).2 g.size⟩, h.nl, h.u.kept h1.pw.pg.hS lo⟩
theorem BP.below (h : BP N aZ aB S K B names W) (g : Below W.heap.size W W') : BP N aZ aB S K B names W' := h.kept (S' := fun _ => False) (Kp.of_below g) (fun _ _ e => e) (fun _ e => e.elim)
theorem BP.sen (h : BP N aZ aB S K B names W) : Sen N aZ aB W ∧ N ≤ W.heap.size := by
  obtain ⟨P, m, T, r, v, h1, _⟩ := h.ex
  exact ⟨h1.pw.pg.hS, h1.pw.pg.hN⟩
theorem BP.pr (h : BP N aZ aB S K B names W) : ∃ P m T r, Pr N aZ aB K P m T r B names W ∧ ∀ W', Tb T r names W' → Kp (· = r) W W' → BP N aZ aB S K B names W' ∧ Kp S W W' := by
  obtain ⟨P, m, T, r, v, h1, h2, sP, sm, sT, sr, sg⟩ := h.ex
  refine ⟨P, m, T, r, ⟨h1, h2.nm, h.nl⟩, fun W' ht hk => ?_⟩
  obtain ⟨es, clock, hr, _⟩ := h1.pw.tb.hr
  have rN := h1.pw.rN
  have nB : B ≠ r := fun e => by have := h2.hB; rw [e, hr] at this; cases this
  have lo : ∀ j, j < N → W'.heap[j]? = W.heap[j]? := fun j hj => hk.block j (by have := h1.pw.pg.hN; omega) (by omega)
  refine ⟨⟨⟨P, m, T, r, v, h1.kept hk ht, h2.same (hk.block B (h.lt B h.sB).2 nB) (fun g hg => hk.block g (h.lt g (sg g hg)).2 ?_), sP, sm, sT, sr, sg⟩, h.sK, h.sB, fun k hk' => ⟨(h.lt k hk').1, Nat.lt_of_lt_of_le (h.lt k hk').2 hk.size⟩, h.nl, h.u.kept h1.pw.pg.hS lo⟩, hk.mono fun k e => e ▸ sr⟩
  intro e
  rcases h2.row.2 with ⟨h3, _⟩ | ⟨b', cap, cur, e1, e2, e3, e4⟩
  · rw [h3] at hg; cases hg
  · rw [e1] at hg
    simp only [Value.ownBlock, Option.some.injEq] at hg
    rw [hg, e, hr] at e3
    cases e3
theorem bp_values (s : ByteArray) (h : BP N aZ aB S K B names W) : Calls Tryz.prog 17 #[prV K B, .string s] W fun e w' => e = .returned (.bool true) ∧ BP N aZ aB S K B names w' ∧ Kp S W w' := by
  obtain ⟨P, m, T, r, h1, h2⟩ := h.pr
  exact (values_any N aZ aB K P m T r B names s W h1).mono fun e w' ⟨a, b, c⟩ => ⟨a, h2 w' b c⟩
theorem bp_nears (s : ByteArray) (n : Int) (h : BP N aZ aB S K B names W) : Calls Tryz.prog 28 #[prV K B, .string s, .int .i64 n] W fun e w' => e = .returned (.bool true) ∧ BP N aZ aB S K B names w' ∧ Kp S W w' := by
  obtain ⟨P, m, T, r, h1, h2⟩ := h.pr
  exact (nears_any N aZ aB K P m T r B names s n W h1).mono fun e w' ⟨a, b, c⟩ => ⟨a, h2 w' b c⟩
theorem bp_digits (s : ByteArray) (n : Int) (h : BP N aZ aB S K B names W) : Calls Tryz.prog 24 #[prV K B, .string s, .int .i64 n] W fun e w' => e = .returned (.bool true) ∧ BP N aZ aB S K B names w' ∧ Kp S W w' := by
  obtain ⟨P, m, T, r, h1, h2⟩ := h.pr
  exact (ldigits_any N aZ aB K P m T r B names s n W h1).mono fun e w' ⟨a, b, c⟩ => ⟨a, h2 w' b c⟩
end
set_option maxHeartbeats 1000000 in
theorem pair_full (N : Nat) (aZ aB : Addr) (w : World) (hS : Sen N aZ aB w) (hN : N ≤ w.heap.size) :
    Calls Tryz.prog 16 #[] w fun e w' => ∃ K P m T r B, e = .returned (.tuple #[prV K B, .bool true]) ∧ Bk N aZ aB K P m T r [] w' ∧ w'.heap[B]? = some (.cells #[.slice none 0 0] 88 (0, 0)) ∧ B ≠ r ∧ w.heap.size ≤ r ∧ w.heap.size ≤ B ∧ w.heap.size ≤ K ∧ w.heap.size ≤ P ∧ w.heap.size ≤ T ∧ w.heap.size ≤ m ∧ Below w.heap.size w w' := by
  have h0 := heap_alloc_new w (.cells #[.pointer none, .pointer none] 34)
  have hb0 := fr_below w (.cells #[.pointer none, .pointer none] 34)
  have C1 := new_any N aZ aB (w.alloc (.cells #[.pointer none, .pointer none] 34)) (hS.alloc hN _) (by simp; omega)
  simp only [World.size_alloc] at C1
  have HS := hidMk hN
  clear hS hN
  go_enter Tryz.func16, Tryz.ntmps16
  go_wp2_with fail
  refine C1.mono ?_
  rintro e w' ⟨rfl, hbk, hb⟩
  clear C1
  have h1 := (hb.block w.heap.size (by omega)).trans h0
  have hb1 := hb0.trans (hb.mono (by omega))
  have h2 := (Below.heap_alloc w' (.cells #[.slice none 0 0] 88) _ (Array.getElem?_eq_some_iff.1 h1).1).trans h1
  have hbk2 := hbk.below (fr_below w' (.cells #[.slice none 0 0] 88))
  have hB := heap_alloc_new w' (.cells #[.slice none 0 0] 88)
  have hb2 := hb1.alloc hb1.size (.cells #[.slice none 0 0] 88)
  have hlt := (Array.getElem?_eq_some_iff.1 hbk.hK).1
  clear h0 hb0 h1 hbk hb
  generalize w.alloc _ = W0 at *
  obtain ⟨c0, c1, f0, f1⟩ := two_cells h2
  go_wp2_with fail
  have hbk3 := (hbk2.store h2 ⟨by decide, by decide, by decide⟩ HS.out 0 (.pointer (some ⟨w.heap.size + 1 + 4, 0, none⟩)))
  have h3 : ((w'.alloc (.cells #[.slice none 0 0] 88)).setCell ⟨w.heap.size, 0, none⟩ (.pointer (some ⟨w.heap.size + 1 + 4, 0, none⟩))).heap[w.heap.size]? = some (.cells #[.pointer (some ⟨w.heap.size + 1 + 4, 0, none⟩), .pointer none] 34 (0, 0)) := by
    simp [World.setCell, Array.getElem?_modify, h2]
  have hbk4 := (hbk3.store h3 ⟨by decide, by decide, by decide⟩ HS.out 1 (.pointer (some ⟨w'.heap.size, 0, none⟩)))
  have h4 := two_set h2 (.pointer (some ⟨w.heap.size + 1 + 4, 0, none⟩)) (.pointer (some ⟨w'.heap.size, 0, none⟩))
  have hne : w'.heap.size ≠ w.heap.size := by omega
  have hB4 := (two_other hne (.pointer (some ⟨w.heap.size + 1 + 4, 0, none⟩)) (.pointer (some ⟨w'.heap.size, 0, none⟩))).trans hB
  have hb4 := (hb2.setCell (p := ⟨w.heap.size, 0, none⟩) (Nat.le_refl _) (.pointer (some ⟨w.heap.size + 1 + 4, 0, none⟩))).setCell (p := ⟨w.heap.size, 1, none⟩) (Nat.le_refl _) (.pointer (some ⟨w'.heap.size, 0, none⟩))
  clear hbk2 hbk3 h3 h2 hB hb2 c0 c1 f0 f1
  generalize ((w'.alloc _).setCell _ _).setCell _ _ = W5 at *
  obtain ⟨c0, c1, _, _⟩ := two_cells h4
  exact bodyPost_ret (v := .tuple #[prV (w.heap.size + 1 + 4) w'.heap.size, .bool true]) (by simp [results, Tryz.results16, go_sem, c0, c1]) rfl ⟨_, _, _, _, _, _, rfl, hbk4, hB4, by omega, by omega, by omega, by omega, by omega, by omega, by omega, hb4⟩
theorem bp_pair (N : Nat) (aZ aB : Addr) (w : World) (hS : Sen N aZ aB w) (hU : U8T w) (hN : N ≤ w.heap.size) :
    Calls Tryz.prog 16 #[] w fun e w' => ∃ K B, e = .returned (.tuple #[prV K B, .bool true]) ∧ BP N aZ aB (fun k => w.heap.size ≤ k ∧ k < w'.heap.size) K B [] w' ∧ Below w.heap.size w w' := by
  refine (pair_full N aZ aB w hS hN).mono ?_
  rintro e w' ⟨K, P, m, T, r, B, rfl, hb, hB, _, l1, l2, l3, l4, l5, l6, hg⟩
  obtain ⟨es, clock, h1, h2⟩ := hb.pw.pg.hm
  obtain ⟨es', clock', h3, h4⟩ := hb.pw.tb.hr
  exact ⟨K, B, rfl, ⟨⟨P, m, T, r, _, hb, ⟨hB, World.ownsRow_nil _ _ _ _⟩, ⟨l4, (Array.getElem?_eq_some_iff.1 hb.pw.hP).1⟩, ⟨l6, (Array.getElem?_eq_some_iff.1 h1).1⟩, ⟨l5, (Array.getElem?_eq_some_iff.1 hb.pw.tb.ht).1⟩, ⟨l1, (Array.getElem?_eq_some_iff.1 h3).1⟩, fun g e => by cases e⟩,
    ⟨l3, (Array.getElem?_eq_some_iff.1 hb.hK).1⟩, ⟨l2, (Array.getElem?_eq_some_iff.1 hB).1⟩, fun k hk => ⟨Nat.le_trans hN hk.1, hk.2⟩, by simp, hU.kept hS (fun j hj => hg.block j (by omega))⟩, hg⟩
end Go.Proofs.YtodabmkcihafhaaGreatDoor

/- Books: the document's Let. -/
namespace Go.Proofs.YtodabmkcihafhaaGreatDoor
open Go.RowKit
set_option linter.unusedVariables false
theorem put_find (c : Int) (x : Num) : ∀ (names : List (Int × Num)) (i : Nat), (envOf names c = none ∧ findF names c i = -1 ∧ putN names c x = names ++ [(c, x)]) ∨
    ∃ j y, names[j]? = some (c, y) ∧ envOf names c = some y ∧ findF names c i = ((i + j : Nat) : Int) ∧ putN names c x = names.set j (c, x) := by
  intro names
  induction names with
  | nil => intro i; exact Or.inl ⟨rfl, rfl, rfl⟩
  | cons p r ih =>
    intro i
    by_cases hc : p.1 = c
    · right
      obtain ⟨a, y⟩ := p
      simp only at hc
      subst hc
      exact ⟨0, y, rfl, by simp [envOf], by simp [findF], by simp [putN]⟩
    · have ee : envOf (p :: r) c = envOf r c := by simp [envOf, hc]
      have eF : findF (p :: r) c i = findF r c (i + 1) := by rw [findF_cons, if_neg hc]
      have eP : putN (p :: r) c x = p :: putN r c x := by rw [putN, if_neg hc]
      rcases ih (i + 1) with ⟨q1, q2, q3⟩ | ⟨j, y, q1, q2, q3, q4⟩
      · left
        exact ⟨by rw [ee, q1], by rw [eF, q2], by rw [eP, q3]; rfl⟩
      · right
        exact ⟨j + 1, y, by simpa using q1, by rw [ee, q2], by rw [eF, q3]; congr 1; omega, by rw [eP, q4]; rfl⟩
theorem Tryz.infoNamed : (Tryz.prog.info? 141).map (fun i => (i.zero, i.size, i.bytes)) = some (some (.agg #[.int .i64 0, .int .i64 0, .int .i64 0, .int .i64 0, .int .i64 0]), 5, 40) := by kernel_rfl
/-- append as an operation of a region. -/
theorem step_append_at {P : Program} {ops : Array Oper} {o : Oper} {a : Act} {w : World} {K : Act → World → Prop} {Q : Exit → Act → World → Prop} {E : Prop} (hgd : o.guard = none) (s x : Operand) (t : TypeId)
    (ho : o.op = .call { callee := .builtin .append, args := #[s, x], argTypes := #[t, t] })
    (base : Nat) (e : TypeId) (i : TypeInfo) (z : Value) (size bytes : Nat) (ht : P.underlying t = some (.slice e)) (hi : P.info? e = some i) (hz : i.zero = some z)
    (hsize : i.size = size) (hby : i.bytes = bytes) (hzs : z.cells.size = size) (hsz : 0 < size)
    (v : Value) (n : Nat) (xs : List Value) (hs : a.eval s = v) (hown : w.ownsRow base e size v n xs)
    (ad : Addr) (m c : Nat) (news : List Value) (hx : a.eval x = .slice (some ad) m c) (hl : news.length = m * size) (hnews : ∀ j u, news[j]? = some u → w.cell? (ad.add j) = some u) (h1 : ∀ u ∈ news, u.oneCell' = true)
    (h63 : n + m ≤ maxLen) (hbytes : (n + m) * bytes ≤ 140737488355328) (hbase : base ≤ w.heap.size)
    (h : ∀ v' w', w'.ownsRow base e size v' (n + m) (xs ++ news) → w.grownBy w' v.ownBlock → (v'.ownBlock = v.ownBlock ∨ v'.ownBlock = some w.heap.size) → K (a.put o.dst v') w') :
    if Region.wanted o (yielded ops a.tmps) = true then Oper.wp P o a w K Q else E := by
  rw [if_pos (by unfold Region.wanted; rw [hgd])]
  obtain ⟨v', w', hr, h2, h3, h4, h5⟩ := run_append_own_at (P := P) w base t o.type e i z size bytes ht hi hz hsize hby hzs hsz v n xs hown ad m c news hl hnews h1 h63 hbytes hbase
  unfold Oper.wp execOp
  simp only [ho, resolve, invoke, builtin, Sem.run_bind, Sem.run_pure, Result.andThen_ok, List.map_toArray, List.map_cons, List.map_nil, hs, hx, hr]
  exact h v' w' h2 h3 h5
abbrev nmA (c : Int) (x : Num) : Array Value := #[.int .i64 c, .int .i64 x.re.n, .int .i64 x.re.d, .int .i64 x.im.n, .int .i64 x.im.d]
/-- The world while the row grows and is stored. -/
structure RL (N B : Nat) (names : List (Int × Num)) (c : Int) (x : Num) (v : Value) (w : World) (bx : Nat) (B4 B8 B9 B12 : Bool) (u51 u52 : Value) (W : World) : Prop where
  hx : W.heap[bx]? = some (.cells (numC x) 92 (0, 0))
  hk : Kp (fun k => k = B ∨ v.ownBlock = some k) w W
  hB : B12 = false → W.heap[B]? = some (.cells #[v] 88 (0, 0))
  o12 : B12 = true → B9 = true
  o9 : B9 = true → B4 = true ∧ B8 = true
  row : B9 = false → W.ownsRow N 141 5 v names.length (nmC names)
  lay : B8 = true → B9 = false → ∃ g, u51 = .slice (some ⟨g, 0, none⟩) 1 1 ∧ W.heap[g]? = some (.cells (nmA c x) 141 (0, 0))
  app : B9 = true → W.ownsRow N 141 5 u52 (names.length + 1) (nmC (names ++ [(c, x)])) ∧ ∀ g, u52.ownBlock = some g → v.ownBlock = some g ∨ w.heap.size ≤ g
  st : B12 = true → W.heap[B]? = some (.cells #[u52] 88 (0, 0))
theorem own_type {w : World} {base : Nat} {e t : TypeId} {sz : Nat} {v : Value} {n : Nat} {xs : List Value} {k : Nat} {c : Array Value} {f : Nat × Nat} (h : w.ownsRow base e sz v n xs) (hk : w.heap[k]? = some (.cells c t f)) (hne : t ≠ e) : v.ownBlock ≠ some k := by
  intro e1
  rcases h.2 with ⟨h1, _⟩ | ⟨g, cap, cur, h1, _, h3, _⟩
  · rw [h1] at e1; cases e1
  · rw [h1] at e1
    simp only [Value.ownBlock, Option.some.injEq] at e1
    rw [e1, hk] at h3
    simp at h3
    exact hne h3.2.1
section
variable {N B : Nat} {names : List (Int × Num)} {c : Int} {x : Num} {v : Value} {w : World} {bx : Nat} {B4 B8 B9 B12 : Bool} {u51 u52 : Value} {W W' : World}
theorem RL.four (h : RL N B names c x v w bx B4 B8 B9 B12 u51 u52 W) : RL N B names c x v w bx true B8 B9 B12 u51 u52 W :=
  ⟨h.hx, h.hk, h.hB, h.o12, fun e => ⟨rfl, (h.o9 e).2⟩, h.row, h.lay, h.app, h.st⟩
theorem RL.eight (h : RL N B names c x v w bx B4 B8 B9 B12 u51 u52 W) (n8 : B8 = false) : RL N B names c x v w bx B4 true B9 B12 (.slice (some ⟨W.heap.size, 0, none⟩) 1 1) u52 (W.alloc (.cells (nmA c x) 141)) := by
  have n9 : B9 = false := by
    cases e : B9 with
    | false => rfl
    | true => rw [(h.o9 e).2] at n8; cases n8
  have n12 : B12 = false := by
    cases e : B12 with
    | false => rfl
    | true => rw [h.o12 e] at n9; cases n9
  have g := fr_below W (.cells (nmA c x) 141)
  refine ⟨(g.block _ (Array.getElem?_eq_some_iff.1 h.hx).1).trans h.hx, h.hk.below g, fun e => (g.block _ (Array.getElem?_eq_some_iff.1 (h.hB e)).1).trans (h.hB e), h.o12, fun e => (by rw [n9] at e; cases e), fun e => row_below (h.row e) g, fun _ _ => ⟨_, rfl, heap_alloc_new W _⟩, fun e => (by rw [n9] at e; cases e), fun e => (by rw [n12] at e; cases e)⟩
theorem RL.nine {v' : Value} (h : RL N B names c x v w bx B4 B8 B9 B12 u51 u52 W) (n9 : B9 = false) (y4 : B4 = true) (y8 : B8 = true) (hr : W'.ownsRow N 141 5 v' (names.length + 1) (nmC names ++ nmC [(c, x)])) (hg : W.grownBy W' v.ownBlock) (ha : v'.ownBlock = v.ownBlock ∨ v'.ownBlock = some W.heap.size) :
    RL N B names c x v w bx B4 B8 true B12 u51 v' W' := by
  have n12 : B12 = false := by
    cases e : B12 with
    | false => rfl
    | true => rw [h.o12 e] at n9; cases n9
  have hB := h.hB n12
  have nx := own_type (h.row n9) h.hx (by decide)
  have nB := own_type (h.row n9) hB (by decide)
  refine ⟨(hg.block _ (Array.getElem?_eq_some_iff.1 h.hx).1 (fun e => nx e.symm)).trans h.hx, h.hk.trans ⟨hg.os, hg.tape, hg.output, hg.size, fun k hk hn => hg.block k hk (fun e => hn (Or.inr e.symm))⟩, fun _ => (hg.block _ (Array.getElem?_eq_some_iff.1 hB).1 (fun e => nB e.symm)).trans hB, fun e => rfl, fun _ => ⟨y4, y8⟩, fun e => (by cases e), fun _ e => (by cases e), fun _ => ⟨?_, fun g e => ?_⟩, fun e => (by rw [n12] at e; cases e)⟩
  · rw [nmC_app]; exact hr
  · rcases ha with ha | ha
    · exact Or.inl (by rw [← ha, e])
    · rw [ha] at e
      simp only [Option.some.injEq] at e
      exact Or.inr (by rw [← e]; exact h.hk.size)
theorem RL.twelve (h : RL N B names c x v w bx B4 B8 B9 B12 u51 u52 W) (n12 : B12 = false) (y9 : B9 = true) : RL N B names c x v w bx B4 B8 B9 true u51 u52 (W.setCell ⟨B, 0, none⟩ u52) := by
  have hB := h.hB n12
  have nb : bx ≠ B := fun e => by have := h.hx; rw [e, hB] at this; simp at this
  obtain ⟨hr, hg⟩ := h.app y9
  have nB := own_type hr hB (by decide)
  refine ⟨(Below.heap_setCell _ _ _ _ nb).trans h.hx, h.hk.setCell (p := ⟨B, 0, none⟩) (Or.inl (Or.inl rfl)) _, fun e => (by cases e), fun _ => y9, h.o9, fun e => (by rw [y9] at e; cases e), fun _ e => (by rw [y9] at e; cases e), fun _ => ⟨?_, hg⟩, fun _ => by simp [World.setCell, Array.getElem?_modify, hB]⟩
  refine ⟨hr.1, ?_⟩
  rcases hr.2 with h2 | ⟨b, cap, cur, e1, e2, e3, e4⟩
  · exact Or.inl h2
  · exact Or.inr ⟨b, cap, cur, e1, e2, (Below.heap_setCell _ _ _ _ (fun e => nB (by rw [e1]; simp [Value.ownBlock]; exact e))).trans e3, e4⟩
end
theorem nm_new (w : World) (c : Int) (x : Num) {g : Nat} (h : w.heap[g]? = some (.cells (nmA c x) 141 (0, 0))) : ∀ j u, (nmC [(c, x)])[j]? = some u → w.cell? ((⟨g, 0, none⟩ : Addr).add j) = some u := by
  intro j u hj
  have : j < 5 := (List.getElem?_eq_some_iff.1 hj).1
  have e : (nmC [(c, x)])[j]? = (nmA c x)[j]? := by rw [← Array.getElem?_toList]; rfl
  rw [e] at hj
  have : ((⟨g, 0, none⟩ : Addr).add j) = ⟨g, j, none⟩ := by
    unfold Addr.add
    by_cases h0 : j = 0 <;> simp [h0]
  rw [this]
  unfold World.cell?
  rw [h]
  exact hj
theorem nm_one (c : Int) (x : Num) : ∀ u ∈ nmC [(c, x)], u.oneCell' = true := by
  intro u hu
  simp [nmC] at hu
  rcases hu with rfl | rfl | rfl | rfl | rfl <;> rfl
theorem four_row {w : World} {k g : Nat} (h : k ≠ g) (j : Nat) (a b c d : Value) : ((((w.setCell ⟨g, j * 5 + 1, none⟩ a).setCell ⟨g, j * 5 + 2, none⟩ b).setCell ⟨g, j * 5 + 3, none⟩ c).setCell ⟨g, j * 5 + 4, none⟩ d).heap[k]? = w.heap[k]? := by
  rw [Below.heap_setCell _ _ _ _ h, Below.heap_setCell _ _ _ _ h, Below.heap_setCell _ _ _ _ h, Below.heap_setCell _ _ _ _ h]
/-- The world while one name's number is stored. -/
structure RS (B : Nat) (x : Num) (v : Value) (bx g j : Nat) (Wd : World) (B8 : Bool) (W : World) : Prop where
  hB : W.heap[B]? = some (.cells #[v] 88 (0, 0))
  hx : W.heap[bx]? = some (.cells (numC x) 92 (0, 0))
  a : B8 = false → W = Wd
  b : B8 = true → W = (((Wd.setCell ⟨g, j * 5 + 1, none⟩ (.int .i64 x.re.n)).setCell ⟨g, j * 5 + 2, none⟩ (.int .i64 x.re.d)).setCell ⟨g, j * 5 + 3, none⟩ (.int .i64 x.im.n)).setCell ⟨g, j * 5 + 4, none⟩ (.int .i64 x.im.d)
theorem DB.put {N B g j cap : Nat} {names : List (Int × Num)} {c : Int} {x y : Num} {W : World} (h : DB N B names (.slice (some ⟨g, 0, none⟩) names.length cap) W) (hj : names[j]? = some (c, y)) :
    DB N B (names.set j (c, x)) (.slice (some ⟨g, 0, none⟩) names.length cap) ((((W.setCell ⟨g, j * 5 + 1, none⟩ (.int .i64 x.re.n)).setCell ⟨g, j * 5 + 2, none⟩ (.int .i64 x.re.d)).setCell ⟨g, j * 5 + 3, none⟩ (.int .i64 x.im.n)).setCell ⟨g, j * 5 + 4, none⟩ (.int .i64 x.im.d)) := by
  have nB := own_type h.row h.hB (by decide)
  have hgB : B ≠ g := fun e => nB (by simp [Value.ownBlock, e])
  refine ⟨?_, by rw [nmC_len, List.length_set], ?_⟩
  · rw [Below.heap_setCell _ _ _ _ hgB, Below.heap_setCell _ _ _ _ hgB, Below.heap_setCell _ _ _ _ hgB, Below.heap_setCell _ _ _ _ hgB]
    exact h.hB
  · rcases h.row.2 with ⟨h2, _⟩ | ⟨b, cp, cur, e1, e2, e3, e4, e5, e6, e7⟩
    · cases h2
    · simp only [Value.slice.injEq, Option.some.injEq, Addr.mk.injEq, and_true] at e1
      obtain ⟨rfl, _, rfl⟩ := e1
      right
      refine ⟨g, cap, (((cur.setIfInBounds (j * 5 + 1) (.int .i64 x.re.n)).setIfInBounds (j * 5 + 2) (.int .i64 x.re.d)).setIfInBounds (j * 5 + 3) (.int .i64 x.im.n)).setIfInBounds (j * 5 + 4) (.int .i64 x.im.d), by rw [List.length_set], e2, by simp [World.setCell, Array.getElem?_modify, e3], by rw [List.length_set]; exact e4, e5, by simpa using e6, ?_⟩
      rw [nmC_set names j c x y hj, ← e7, List.length_set]
      simp [List.take_set]
theorem row_get {W : World} {N g cap : Nat} {names : List (Int × Num)} (h : W.ownsRow N 141 5 (.slice (some ⟨g, 0, none⟩) names.length cap) names.length (nmC names)) {j : Nat} {p : Int × Num} (hj : names[j]? = some p) :
    W.cell? ⟨g, j * 5 + 1, none⟩ = some (.int .i64 p.2.re.n) ∧ W.cell? ⟨g, j * 5 + 1 + 1, none⟩ = some (.int .i64 p.2.re.d) ∧ W.cell? ⟨g, j * 5 + 1 + 2, none⟩ = some (.int .i64 p.2.im.n) ∧ W.cell? ⟨g, j * 5 + 1 + 3, none⟩ = some (.int .i64 p.2.im.d) ∧
    W.frozen? ⟨g, j * 5 + 1, none⟩ = false ∧ W.frozen? ⟨g, j * 5 + 1 + 1, none⟩ = false ∧ W.frozen? ⟨g, j * 5 + 1 + 2, none⟩ = false ∧ W.frozen? ⟨g, j * 5 + 1 + 3, none⟩ = false ∧ names.length ≤ cap := by
  rcases h.2 with ⟨h2, _⟩ | ⟨b, cp, cur, e1, e2, e3, e4, e5, e6, e7⟩
  · cases h2
  · simp only [Value.slice.injEq, Option.some.injEq, Addr.mk.injEq, and_true] at e1
    obtain ⟨rfl, _, rfl⟩ := e1
    have hl := (List.getElem?_eq_some_iff.1 hj).1
    obtain ⟨q0, q1, q2, q3, q4⟩ := nmC_get names j p hj
    rw [← e7, List.getElem?_take_of_lt (by omega), Array.getElem?_toList] at q1 q2 q3 q4
    unfold World.cell? World.frozen?
    rw [e3]
    exact ⟨q1, q2, q3, q4, by simp, by simp, by simp, by simp, e4⟩
set_option maxHeartbeats 8000000 in
set_option maxRecDepth 100000 in
theorem rlet_any (N B : Nat) (names : List (Int × Num)) (v : Value) (nm s : ByteArray) (w : World) (hN : N ≤ w.heap.size) (hl : names.length ≤ 1000) (hok : ∀ q ∈ names, q.2.Ok) (h : DB N B names v w) :
    Calls Tryz.prog 50 #[.pointer (some ⟨B, 0, none⟩), .string nm, .string s] w fun e w' => e = .returned (.tuple #[.int .i64 (letR names nm s).1, .int .i64 (letR names nm s).2.1]) ∧
      ∃ v', DB N B (letR names nm s).2.2 v' w' ∧ (∀ g, v'.ownBlock = some g → v.ownBlock = some g ∨ w.heap.size ≤ g) ∧ Kp (fun k => k = B ∨ v.ownBlock = some k) w w' := by
  have CN := hidMk (rname_any nm w)
  have CV : Hid (∀ W, NmRow B names W → Calls Tryz.prog 36 #[.pointer (some ⟨B, 0, none⟩), .string s] W fun e w' => e = .returned (ansV (valS names s)) ∧ Below W.heap.size W w') := fun W hW => by
    have := rnumber_any B names s W hl hok hW
    rw [refV_ans] at this
    exact this
  have CF := hidMk (fun c W (hW : NmRow B names W) => find_any B names c W hl hW)
  have HNS := hidMk (nm_same nm)
  have HVS := hidMk (valS_cases names s hok)
  have H0 := hidMk h
  have HN := hidMk hN
  clear h hok hN
  go_enter Tryz.func50, Tryz.ntmps50
  go_wp2_with fail
  refine CN.out.mono ?_
  rintro e w1 ⟨rfl, hb1⟩
  have H1 : Hid (DB N B names v w1 ∧ Below w.heap.size w w1) := ⟨H0.out.below hb1, hb1⟩
  clear H0 hb1 CN
  rcases HNS.out with ⟨hok, hnm, hn1, hn2⟩ | ⟨hok, hnm⟩
  · obtain ⟨c, hcc⟩ : ∃ c : Int, nmP nm = c := ⟨_, rfl⟩
    have hc0 : (c == 0) = false := by simp; omega
    have HR : Hid (letR names nm s = match valS names s with | .err q p => (q, (p : Int), names) | .ok x => if ((envOf names c).isSome || decide (names.length < 8)) = true then (0, 0, putN names c x) else (7, 0, names)) := by
      show _ = _
      unfold letR
      rw [if_neg (by rw [hok]; decide), hcc]
      cases valS names s <;> rfl
    rw [hcc]
    clear hok hnm hn1 hn2 hcc HNS
    go_wp2_with fail
    refine (CV.out w1 H1.out.1.nm).mono ?_
    rintro e w2 ⟨rfl, hb2⟩
    have H2 : Hid (DB N B names v w2 ∧ Below w.heap.size w w2) := ⟨H1.out.1.below hb2, H1.out.2.trans (hb2.mono H1.out.2.size)⟩
    clear H1 hb2 CV
    rcases HVS.out with ⟨x, hv⟩ | ⟨q, p, hv, hq⟩
    · have HR2 : Hid (letR names nm s = if ((envOf names c).isSome || decide (names.length < 8)) = true then (0, 0, putN names c x) else (7, 0, names)) := by
        show _ = _
        rw [HR.out, hv]
      rw [hv]
      have e1 : ansV (.ok x) = .tuple #[.agg (numC x), .int .i64 0, .int .i64 0] := rfl
      rw [e1]
      clear hv e1 HVS HR
      go_upto_region 5 with fail
      have H3 : Hid (DB N B names v (w2.alloc (.cells (numC x) 92)) ∧ Below w.heap.size w (w2.alloc (.cells (numC x) 92))) := ⟨H2.out.1.below (fr_below w2 _), H2.out.2.trans ((fr_below w2 _).mono H2.out.2.size)⟩
      have HX3 := hidMk (heap_alloc_new w2 (.cells (numC x) 92))
      generalize w2.alloc _ = W4 at *
      generalize w2.heap.size = b9 at *
      clear H2
      go_wp2_with fail
      refine (CF.out c W4 H3.out.1.nm).mono ?_
      rintro e w4 ⟨rfl, rfl⟩
      clear CF
      obtain ⟨o, cp, hvv⟩ := row_len H3.out.1.row
      subst hvv
      rcases put_find c x names 0 with ⟨p1, p2, p3⟩ | ⟨ix, y, p1, p2, p3, p4⟩
      · rw [p2]
        have hB0 := one_cell H3.out.1.hB
        by_cases h8 : names.length < 8
        · have HR : Hid (letR names nm s = (0, 0, names ++ [(c, x)])) := by
            show _ = _
            rw [HR2.out, if_pos (by simp [h8]), p3]
          have h8' : ¬ (8 : Int) ≤ (names.length : Int) := by omega
          clear HR2 p1 p2 p3
          go_upto_region 11 with fail
          clear hB0
          have HI0 : Hid (RL N B names c x (.slice o names.length cp) w b9 false false false false undef undef w4.drew) := ⟨HX3.out, Kp.drew (Kp.of_below H3.out.2), fun _ => H3.out.1.hB, fun e => (by cases e), fun e => (by cases e), fun _ => H3.out.1.row, fun e => (by cases e), fun e => (by cases e), fun e => by cases e⟩
          clear H3 HX3
          refine region_inv (nt := 63) _
            (fun j v => match j with
              | 0 => v = .pointer (some ⟨B, 0, none⟩)
              | 1 => v = .pointer (some ⟨B, 0, none⟩)
              | 2 => v = .pointer (some ⟨B, 0, none⟩)
              | 3 => v = .pointer (some ⟨B, 0, none⟩)
              | 4 => v = .slice o names.length cp
              | 5 => v = .int .i64 c
              | 6 => v = .agg (numC x)
              | 7 => v = .agg (nmA c x)
              | 10 => v = .pointer (some ⟨B, 0, none⟩)
              | 11 => v = .pointer (some ⟨B, 0, none⟩)
              | _ => True)
            (fun b u w' => Hid (RL N B names c x (.slice o names.length cp) w b9 (b 4) (b 8) (b 9) (b 12) (u 51) (u 52) w'))
            (act_of rfl rfl) (by kernel_rfl) (by kernel_rfl) (by kernel_rfl) HI0.out ?_ ?_
          · intro i o b u w' ho hbi hall hU hW K hK
            have hA : actOf 63 u = ⟨#[u 0, u 1, u 2, u 3, u 4, u 5, u 6, u 7, u 8, u 9, u 10, u 11, u 12, u 13, u 14, u 15, u 16, u 17, u 18, u 19, u 20, u 21, u 22, u 23, u 24, u 25, u 26, u 27, u 28, u 29, u 30, u 31, u 32, u 33, u 34, u 35, u 36, u 37, u 38, u 39, u 40, u 41, u 42, u 43, u 44, u 45, u 46, u 47, u 48, u 49, u 50, u 51, u 52, u 53, u 54, u 55, u 56, u 57, u 58, u 59, u 60, u 61, u 62], []⟩ := rfl
            rw [hA] at hK ⊢
            have c0 : u 0 = .pointer (some ⟨B, 0, none⟩) := hU.oldB 0 (by kernel_rfl)
            have c8 : u 8 = .int .i64 c := hU.oldB 8 (by kernel_rfl)
            have c9 : u 9 = .pointer (some ⟨b9, 0, none⟩) := hU.oldB 9 (by kernel_rfl)
            have got := hU.got
            have HW := hW
            have HKK := hidMk hK
            clear hU hA hK hW
            obtain ⟨x0, x1, x2, x3⟩ := four_cells HW.out.hx
            rcases i with _ | _ | _ | _ | _ | _ | _ | _ | _ | _ | _ | _ | _ | i
            · cases ho
              go_simp
              exact HKK.out _ _ _ (by rw [c0, c8, c9]; rfl) (fun _ => rfl) HW.out
            · cases ho
              go_simp
              exact HKK.out _ _ _ (by rw [c0, c8, c9]; rfl) (fun _ => rfl) HW.out
            · cases ho
              have g44 : u 44 = .pointer (some ⟨B, 0, none⟩) := got 1 44 rfl (hall ⟨1, .data⟩ (by simp) rfl)
              go_simp
              exact HKK.out _ _ _ (by rw [c0, c8, c9, g44]; rfl) (fun _ => rfl) HW.out
            · cases ho
              have g45 : u 45 = .pointer (some ⟨B, 0, none⟩) := got 2 45 rfl (hall ⟨2, .data⟩ (by simp) rfl)
              go_simp
              exact HKK.out _ _ _ (by rw [c0, c8, c9, g45]; rfl) (fun _ => rfl) HW.out
            · cases ho
              have g46 : u 46 = .pointer (some ⟨B, 0, none⟩) := got 3 46 rfl (hall ⟨3, .data⟩ (by simp) rfl)
              have n12 : b 12 = false := by
                cases h : b 12 with
                | false => rfl
                | true => rw [(HW.out.o9 (HW.out.o12 h)).1] at hbi; cases hbi
              have hB0 := one_cell (HW.out.hB n12)
              clear n12
              go_simp
              exact HKK.out _ _ _ (by rw [c0, c8, c9, g46]; rfl) (fun _ => rfl) HW.out.four
            · cases ho
              go_simp
              exact HKK.out _ _ _ (by rw [c0, c8, c9]; rfl) (fun _ => rfl) HW.out
            · cases ho
              go_simp
              exact HKK.out _ _ _ (by rw [c0, c8, c9]; rfl) (fun _ => rfl) HW.out
            · cases ho
              have g48 : u 48 = .int .i64 c := got 5 48 rfl (hall ⟨5, .data⟩ (by simp) rfl)
              have g49 : u 49 = .agg (numC x) := got 6 49 rfl (hall ⟨6, .data⟩ (by simp) rfl)
              go_simp
              exact HKK.out _ _ _ (by rw [c0, c8, c9, g48, g49]; rfl) (fun _ => rfl) HW.out
            · cases ho
              have g50 : u 50 = .agg (nmA c x) := got 7 50 rfl (hall ⟨7, .data⟩ (by simp) rfl)
              have NB := hidMk hbi
              go_simp
              exact HKK.out _ _ _ (by rw [c0, c8, c9, g50]; rfl) (fun _ => trivial) (HW.out.eight NB.out)
            · cases ho
              have g47 : u 47 = .slice o names.length cp := got 4 47 rfl (hall ⟨4, .data⟩ (by simp) rfl)
              have Y4 : Hid (b 4 = true) := hall ⟨4, .data⟩ (by simp) rfl
              have Y8 : Hid (b 8 = true) := hall ⟨8, .data⟩ (by simp) rfl
              obtain ⟨g8, q8, hg8⟩ := HW.out.lay Y8.out hbi
              obtain ⟨i0, Hi, Hz⟩ := Option.map_eq_some_iff.1 Tryz.infoNamed
              simp only [Prod.mk.injEq] at Hz
              refine step_append_at rfl (.tmp 47) (.tmp 51) 86 rfl N 141 i0 _ 5 40 Tryz.underlying86 Hi Hz.1 Hz.2.1 Hz.2.2 rfl (by decide) (.slice o names.length cp) names.length (nmC names) (by rw [c0, c8, c9, g47]; rfl) (HW.out.row hbi) ⟨g8, 0, none⟩ 1 1 (nmC [(c, x)]) (by rw [c0, c8, c9, g47, q8]; rfl) rfl (nm_new w' c x hg8) (nm_one c x) (by unfold maxLen; omega) (by omega) (Nat.le_trans HN.out HW.out.hk.size) ?_
              intro v' w9 hr9 hg9 ha9
              exact HKK.out _ _ _ rfl (fun _ => trivial) (HW.out.nine hbi Y4.out Y8.out hr9 hg9 ha9)
            · cases ho
              have g43 : u 43 = .pointer (some ⟨B, 0, none⟩) := got 0 43 rfl (hall ⟨0, .data⟩ (by simp) rfl)
              go_simp
              exact HKK.out _ _ _ (by rw [c0, c8, c9, g43]; rfl) (fun _ => rfl) HW.out
            · cases ho
              have g53 : u 53 = .pointer (some ⟨B, 0, none⟩) := got 10 53 rfl (hall ⟨10, .data⟩ (by simp) rfl)
              go_simp
              exact HKK.out _ _ _ (by rw [c0, c8, c9, g53]; rfl) (fun _ => rfl) HW.out
            · cases ho
              have g54 : u 54 = .pointer (some ⟨B, 0, none⟩) := got 11 54 rfl (hall ⟨11, .data⟩ (by simp) rfl)
              have Y9 : Hid (b 9 = true) := hall ⟨9, .data⟩ (by simp) rfl
              obtain ⟨o99, k99, q9⟩ := row_len (HW.out.app Y9.out).1
              have NB := hidMk hbi
              have hBc := HW.out.hB hbi
              have hB0 := one_cell hBc
              have hBf := one_frozen hBc
              have H12 := hidMk (HW.out.twelve hbi Y9.out)
              rw [q9] at H12
              clear hBc
              go_simp
              exact HKK.out undef _ _ (by rw [c0, c8, c9, g54, q9]; rfl) (fun h => by cases h) (show Hid (RL N B names c x _ w b9 (b 4) (b 8) (b 9) true (u 51) (u 52) _) from by rw [q9]; exact H12.out)
            · simp at ho
          · intro b u w' hall hU hW
            obtain ⟨ra, rg⟩ := hW.out.app (hall 9 (by decide))
            have rB := hW.out.st (hall 12 (by decide))
            have HRB : Hid (DB N B (names ++ [(c, x)]) (u 52) w') := ⟨rB, by rw [List.length_append]; exact ra⟩
            have HRG := hidMk rg
            have HRK := hidMk hW.out.hk
            have hA : actOf 63 u = ⟨#[u 0, u 1, u 2, u 3, u 4, u 5, u 6, u 7, u 8, u 9, u 10, u 11, u 12, u 13, u 14, u 15, u 16, u 17, u 18, u 19, u 20, u 21, u 22, u 23, u 24, u 25, u 26, u 27, u 28, u 29, u 30, u 31, u 32, u 33, u 34, u 35, u 36, u 37, u 38, u 39, u 40, u 41, u 42, u 43, u 44, u 45, u 46, u 47, u 48, u 49, u 50, u 51, u 52, u 53, u 54, u 55, u 56, u 57, u 58, u 59, u 60, u 61, u 62], []⟩ := rfl
            have e0 : u 0 = .pointer (some ⟨B, 0, none⟩) := hU.oldB 0 (by kernel_rfl)
            have e1 : u 1 = .string nm := hU.oldB 1 (by kernel_rfl)
            have e2 : u 2 = .string s := hU.oldB 2 (by kernel_rfl)
            have e3 : u 3 = undef := hU.oldB 3 (by kernel_rfl)
            have e4 : u 4 = undef := hU.oldB 4 (by kernel_rfl)
            have e5 : u 5 = undef := hU.oldB 5 (by kernel_rfl)
            have e6 : u 6 = .int .i64 0 := hU.oldB 6 (by kernel_rfl)
            have e7 : u 7 = .int .i64 0 := hU.oldB 7 (by kernel_rfl)
            have e8 : u 8 = .int .i64 c := hU.oldB 8 (by kernel_rfl)
            have e9 : u 9 = .pointer (some ⟨b9, 0, none⟩) := hU.oldB 9 (by kernel_rfl)
            have e10 : u 10 = .int .i64 0 := hU.oldB 10 (by kernel_rfl)
            have e11 : u 11 = .int .i64 0 := hU.oldB 11 (by kernel_rfl)
            have e12 : u 12 = .int .i64 (-1) := hU.oldB 12 (by kernel_rfl)
            have e13 : u 13 = .string nm := hU.oldB 13 (by kernel_rfl)
            have e14 : u 14 = .int .i64 c := hU.oldB 14 (by kernel_rfl)
            have e15 : u 15 = .int .i64 c := hU.oldB 15 (by kernel_rfl)
            have e16 : u 16 = .bool false := hU.oldB 16 (by kernel_rfl)
            have e17 : u 17 = .tuple #[.agg (numC x), .int .i64 0, .int .i64 0] := hU.oldB 17 (by kernel_rfl)
            have e18 : u 18 = .pointer (some ⟨B, 0, none⟩) := hU.oldB 18 (by kernel_rfl)
            have e19 : u 19 = .string s := hU.oldB 19 (by kernel_rfl)
            have e20 : u 20 = .tuple #[.agg (numC x), .int .i64 0, .int .i64 0] := hU.oldB 20 (by kernel_rfl)
            have e21 : u 21 = .agg (numC x) := hU.oldB 21 (by kernel_rfl)
            have e22 : u 22 = .int .i64 0 := hU.oldB 22 (by kernel_rfl)
            have e23 : u 23 = .int .i64 0 := hU.oldB 23 (by kernel_rfl)
            have e24 : u 24 = .int .i64 0 := hU.oldB 24 (by kernel_rfl)
            have e25 : u 25 = .bool false := hU.oldB 25 (by kernel_rfl)
            have e26 : u 26 = undef := hU.oldB 26 (by kernel_rfl)
            have e27 : u 27 = undef := hU.oldB 27 (by kernel_rfl)
            have e28 : u 28 = .pointer (some ⟨B, 0, none⟩) := hU.oldB 28 (by kernel_rfl)
            have e29 : u 29 = .int .i64 c := hU.oldB 29 (by kernel_rfl)
            have e30 : u 30 = .int .i64 (-1) := hU.oldB 30 (by kernel_rfl)
            have e31 : u 31 = .int .i64 (-1) := hU.oldB 31 (by kernel_rfl)
            have e32 : u 32 = .bool true := hU.oldB 32 (by kernel_rfl)
            have e33 : u 33 = .bool true := hU.oldB 33 (by kernel_rfl)
            have e34 : u 34 = .pointer (some ⟨B, 0, none⟩) := hU.oldB 34 (by kernel_rfl)
            have e35 : u 35 = .pointer (some ⟨B, 0, none⟩) := hU.oldB 35 (by kernel_rfl)
            have e36 : u 36 = .pointer (some ⟨B, 0, none⟩) := hU.oldB 36 (by kernel_rfl)
            have e37 : u 37 = .slice o names.length cp := hU.oldB 37 (by kernel_rfl)
            have e38 : u 38 = .int .i64 (names.length : Nat) := hU.oldB 38 (by kernel_rfl)
            have e39 : u 39 = .bool (decide ((8 : Int) ≤ (names.length : Nat))) := hU.oldB 39 (by kernel_rfl)
            have e40 : u 40 = .bool (decide ((8 : Int) ≤ (names.length : Nat))) := hU.oldB 40 (by kernel_rfl)
            have e41 : u 41 = .int .i64 (-1) := hU.oldB 41 (by kernel_rfl)
            have e42 : u 42 = .bool true := hU.oldB 42 (by kernel_rfl)
            have e55 : u 55 = undef := hU.oldB 55 (by kernel_rfl)
            have e56 : u 56 = undef := hU.oldB 56 (by kernel_rfl)
            have e57 : u 57 = undef := hU.oldB 57 (by kernel_rfl)
            have e58 : u 58 = undef := hU.oldB 58 (by kernel_rfl)
            have e59 : u 59 = undef := hU.oldB 59 (by kernel_rfl)
            have e60 : u 60 = undef := hU.oldB 60 (by kernel_rfl)
            have e61 : u 61 = undef := hU.oldB 61 (by kernel_rfl)
            have e62 : u 62 = undef := hU.oldB 62 (by kernel_rfl)
            rw [hA, e0, e1, e2, e3, e4, e5, e6, e7, e8, e9, e10, e11, e12, e13, e14, e15, e16, e17, e18, e19, e20, e21, e22, e23, e24, e25, e26, e27, e28, e29, e30, e31, e32, e33, e34, e35, e36, e37, e38, e39, e40, e41, e42, e55, e56, e57, e58, e59, e60, e61, e62]
            clear hA e0 e1 e2 e3 e4 e5 e6 e7 e8 e9 e10 e11 e12 e13 e14 e15 e16 e17 e18 e19 e20 e21 e22 e23 e24 e25 e26 e27 e28 e29 e30 e31 e32 e33 e34 e35 e36 e37 e38 e39 e40 e41 e42 e55 e56 e57 e58 e59 e60 e61 e62
            clear hU hW hall ra rB rg
            go_wp2_with fail
            exact bodyPost_ret (v := .tuple #[.int .i64 0, .int .i64 0]) (by simp [results, Tryz.results50, go_sem]) rfl ⟨by rw [HR.out], _, by rw [HR.out]; exact HRB.out, HRG.out, HRK.out⟩
        · have HR : Hid (letR names nm s = (7, 0, names)) := by
            show _ = _
            rw [HR2.out, p1, if_neg (by simp [h8])]
          have h8' : (8 : Int) ≤ (names.length : Int) := by omega
          clear HR2 p1 p2 p3
          go_wp2_with fail
          exact bodyPost_ret (v := .tuple #[.int .i64 7, .int .i64 0]) (by simp [results, Tryz.results50, go_sem]) rfl ⟨by rw [HR.out], _, by rw [HR.out]; exact H3.out.1, fun g e => Or.inl e, Kp.of_below H3.out.2⟩
      · rw [p3, Nat.zero_add]
        have HR : Hid (letR names nm s = (0, 0, names.set ix (c, x))) := by
          show _ = _
          rw [HR2.out, p2, if_pos (by simp), p4]
        have hjl := (List.getElem?_eq_some_iff.1 p1).1
        have HP := hidMk p1
        obtain ⟨g, rfl⟩ : ∃ g, o = some ⟨g, 0, none⟩ := by
          rcases H3.out.1.row.2 with ⟨h2, _⟩ | ⟨b, cap, cur, e1, _⟩
          · simp only [Value.slice.injEq] at h2; omega
          · simp only [Value.slice.injEq] at e1; exact ⟨b, e1.1⟩
        clear HR2 p1 p2 p3 p4
        have hj0 : ¬ (ix : Int) < 0 := by omega
        go_upto_region 12 with fail
        have hN2 : b9 ≠ g := fun e => own_type H3.out.1.row HX3.out (by decide) (by simp [Value.ownBlock, e])
        have hN3 : B ≠ g := fun e => own_type H3.out.1.row H3.out.1.hB (by decide) (by simp [Value.ownBlock, e])
        have HI0 : Hid (RS B x (.slice (some ⟨g, 0, none⟩) names.length cp) b9 g ix w4.drew false w4.drew) := ⟨H3.out.1.hB, HX3.out, fun _ => rfl, fun e => by cases e⟩
        have HC := hidMk (row_get (W := w4) H3.out.1.row HP.out)
        have HK3 := hidMk (Kp.drew (Kp.of_below (S := fun k => k = B ∨ Value.ownBlock (.slice (some ⟨g, 0, none⟩) names.length cp) = some k) H3.out.2))
        have HB3 : Hid (DB N B names (.slice (some ⟨g, 0, none⟩) names.length cp) w4.drew) := ⟨H3.out.1.hB, H3.out.1.row⟩
        clear H3 HX3
        have hjl' : (ix : Int) < (names.length : Int) := by omega
        refine region_inv (nt := 63) _
          (fun j v => match j with
            | 0 => v = .pointer (some ⟨B, 0, none⟩)
            | 1 => v = .pointer (some ⟨B, 0, none⟩)
            | 2 => v = .pointer (some ⟨B, 0, none⟩)
            | 3 => v = .slice (some ⟨g, 0, none⟩) names.length cp
            | 4 => v = .int .i64 (ix : Nat)
            | 5 => v = .agg (numC x)
            | 6 => v = .pointer (some ⟨g, ix * 5, none⟩)
            | 7 => v = .pointer (some ⟨g, ix * 5 + 1, none⟩)
            | _ => True)
          (fun b u w' => Hid (RS B x (.slice (some ⟨g, 0, none⟩) names.length cp) b9 g ix w4.drew (b 8) w'))
          (act_of rfl rfl) (by kernel_rfl) (by kernel_rfl) (by kernel_rfl) HI0.out ?_ ?_
        · intro i o b u w' ho hbi hall hU hW K hK
          have hA : actOf 63 u = ⟨#[u 0, u 1, u 2, u 3, u 4, u 5, u 6, u 7, u 8, u 9, u 10, u 11, u 12, u 13, u 14, u 15, u 16, u 17, u 18, u 19, u 20, u 21, u 22, u 23, u 24, u 25, u 26, u 27, u 28, u 29, u 30, u 31, u 32, u 33, u 34, u 35, u 36, u 37, u 38, u 39, u 40, u 41, u 42, u 43, u 44, u 45, u 46, u 47, u 48, u 49, u 50, u 51, u 52, u 53, u 54, u 55, u 56, u 57, u 58, u 59, u 60, u 61, u 62], []⟩ := rfl
          rw [hA] at hK ⊢
          have c0 : u 0 = .pointer (some ⟨B, 0, none⟩) := hU.oldB 0 (by kernel_rfl)
          have c9 : u 9 = .pointer (some ⟨b9, 0, none⟩) := hU.oldB 9 (by kernel_rfl)
          have c12 : u 12 = .int .i64 (ix : Nat) := hU.oldB 12 (by kernel_rfl)
          have got := hU.got
          have HW := hW
          have HKK := hidMk hK
          clear hU hA hK hW
          have hB0 := one_cell HW.out.hB
          obtain ⟨x0, x1, x2, x3⟩ := four_cells HW.out.hx
          rcases i with _ | _ | _ | _ | _ | _ | _ | _ | _ | i
          · cases ho
            go_simp
            exact HKK.out _ _ _ (by rw [c0, c9, c12]; rfl) (fun _ => rfl) HW.out
          · cases ho
            have g55 : u 55 = .pointer (some ⟨B, 0, none⟩) := got 0 55 rfl (hall ⟨0, .data⟩ (by simp) rfl)
            go_simp
            exact HKK.out _ _ _ (by rw [c0, c9, c12, g55]; rfl) (fun _ => rfl) HW.out
          · cases ho
            have g56 : u 56 = .pointer (some ⟨B, 0, none⟩) := got 1 56 rfl (hall ⟨1, .data⟩ (by simp) rfl)
            go_simp
            exact HKK.out _ _ _ (by rw [c0, c9, c12, g56]; rfl) (fun _ => rfl) HW.out
          · cases ho
            have g57 : u 57 = .pointer (some ⟨B, 0, none⟩) := got 2 57 rfl (hall ⟨2, .data⟩ (by simp) rfl)
            go_simp
            exact HKK.out _ _ _ (by rw [c0, c9, c12, g57]; rfl) (fun _ => rfl) HW.out
          · cases ho
            go_simp
            exact HKK.out _ _ _ (by rw [c0, c9, c12]; rfl) (fun _ => rfl) HW.out
          · cases ho
            go_simp
            exact HKK.out _ _ _ (by rw [c0, c9, c12]; rfl) (fun _ => rfl) HW.out
          · cases ho
            have g58 : u 58 = .slice (some ⟨g, 0, none⟩) names.length cp := got 3 58 rfl (hall ⟨3, .data⟩ (by simp) rfl)
            have g59 : u 59 = .int .i64 (ix : Nat) := got 4 59 rfl (hall ⟨4, .data⟩ (by simp) rfl)
            go_simp
            exact HKK.out _ _ _ (by rw [c0, c9, c12, g58, g59]; rfl) (fun _ => rfl) HW.out
          · cases ho
            have g61 : u 61 = .pointer (some ⟨g, ix * 5, none⟩) := got 6 61 rfl (hall ⟨6, .data⟩ (by simp) rfl)
            go_simp
            exact HKK.out _ _ _ (by rw [c0, c9, c12, g61]; rfl) (fun _ => rfl) HW.out
          · cases ho
            have g62 : u 62 = .pointer (some ⟨g, ix * 5 + 1, none⟩) := got 7 62 rfl (hall ⟨7, .data⟩ (by simp) rfl)
            have g60 : u 60 = .agg (numC x) := got 5 60 rfl (hall ⟨5, .data⟩ (by simp) rfl)
            have hwa := HW.out.a hbi
            subst hwa
            obtain ⟨r1, r2, r3, r4, f1, f2, f3, f4, _⟩ := HC.out
            have HA := hidMk (And.intro hN2 hN3)
            go_simp
            exact HKK.out undef _ _ (by rw [c0, c9, c12, g62, g60]; rfl) (fun h => by cases h) ⟨(four_row HA.out.2 _ _ _ _ _).trans HW.out.hB, (four_row HA.out.1 _ _ _ _ _).trans HW.out.hx, fun e => (by cases e), fun _ => rfl⟩
          · simp at ho
        · intro b u w' hall hU hW
          have hw := hW.out.b (hall 8 (by decide))
          have HRB := hidMk (HB3.out.put (x := x) HP.out)
          have HKK := hidMk ((((HK3.out.setCell (p := ⟨g, ix * 5 + 1, none⟩) (Or.inl (Or.inr rfl)) (.int .i64 x.re.n)).setCell (p := ⟨g, ix * 5 + 2, none⟩) (Or.inl (Or.inr rfl)) (.int .i64 x.re.d)).setCell (p := ⟨g, ix * 5 + 3, none⟩) (Or.inl (Or.inr rfl)) (.int .i64 x.im.n)).setCell (p := ⟨g, ix * 5 + 4, none⟩) (Or.inl (Or.inr rfl)) (.int .i64 x.im.d))
          rw [← hw] at HRB HKK
          have hA : actOf 63 u = ⟨#[u 0, u 1, u 2, u 3, u 4, u 5, u 6, u 7, u 8, u 9, u 10, u 11, u 12, u 13, u 14, u 15, u 16, u 17, u 18, u 19, u 20, u 21, u 22, u 23, u 24, u 25, u 26, u 27, u 28, u 29, u 30, u 31, u 32, u 33, u 34, u 35, u 36, u 37, u 38, u 39, u 40, u 41, u 42, u 43, u 44, u 45, u 46, u 47, u 48, u 49, u 50, u 51, u 52, u 53, u 54, u 55, u 56, u 57, u 58, u 59, u 60, u 61, u 62], []⟩ := rfl
          have e0 : u 0 = .pointer (some ⟨B, 0, none⟩) := hU.oldB 0 (by kernel_rfl)
          have e1 : u 1 = .string nm := hU.oldB 1 (by kernel_rfl)
          have e2 : u 2 = .string s := hU.oldB 2 (by kernel_rfl)
          have e3 : u 3 = undef := hU.oldB 3 (by kernel_rfl)
          have e4 : u 4 = undef := hU.oldB 4 (by kernel_rfl)
          have e5 : u 5 = undef := hU.oldB 5 (by kernel_rfl)
          have e6 : u 6 = .int .i64 0 := hU.oldB 6 (by kernel_rfl)
          have e7 : u 7 = .int .i64 0 := hU.oldB 7 (by kernel_rfl)
          have e8 : u 8 = .int .i64 c := hU.oldB 8 (by kernel_rfl)
          have e9 : u 9 = .pointer (some ⟨b9, 0, none⟩) := hU.oldB 9 (by kernel_rfl)
          have e10 : u 10 = .int .i64 0 := hU.oldB 10 (by kernel_rfl)
          have e11 : u 11 = .int .i64 0 := hU.oldB 11 (by kernel_rfl)
          have e12 : u 12 = .int .i64 (ix : Nat) := hU.oldB 12 (by kernel_rfl)
          have e13 : u 13 = .string nm := hU.oldB 13 (by kernel_rfl)
          have e14 : u 14 = .int .i64 c := hU.oldB 14 (by kernel_rfl)
          have e15 : u 15 = .int .i64 c := hU.oldB 15 (by kernel_rfl)
          have e16 : u 16 = .bool false := hU.oldB 16 (by kernel_rfl)
          have e17 : u 17 = .tuple #[.agg (numC x), .int .i64 0, .int .i64 0] := hU.oldB 17 (by kernel_rfl)
          have e18 : u 18 = .pointer (some ⟨B, 0, none⟩) := hU.oldB 18 (by kernel_rfl)
          have e19 : u 19 = .string s := hU.oldB 19 (by kernel_rfl)
          have e20 : u 20 = .tuple #[.agg (numC x), .int .i64 0, .int .i64 0] := hU.oldB 20 (by kernel_rfl)
          have e21 : u 21 = .agg (numC x) := hU.oldB 21 (by kernel_rfl)
          have e22 : u 22 = .int .i64 0 := hU.oldB 22 (by kernel_rfl)
          have e23 : u 23 = .int .i64 0 := hU.oldB 23 (by kernel_rfl)
          have e24 : u 24 = .int .i64 0 := hU.oldB 24 (by kernel_rfl)
          have e25 : u 25 = .bool false := hU.oldB 25 (by kernel_rfl)
          have e26 : u 26 = undef := hU.oldB 26 (by kernel_rfl)
          have e27 : u 27 = undef := hU.oldB 27 (by kernel_rfl)
          have e28 : u 28 = .pointer (some ⟨B, 0, none⟩) := hU.oldB 28 (by kernel_rfl)
          have e29 : u 29 = .int .i64 c := hU.oldB 29 (by kernel_rfl)
          have e30 : u 30 = .int .i64 (ix : Nat) := hU.oldB 30 (by kernel_rfl)
          have e31 : u 31 = .int .i64 (ix : Nat) := hU.oldB 31 (by kernel_rfl)
          have e32 : u 32 = .bool false := hU.oldB 32 (by kernel_rfl)
          have e33 : u 33 = .bool false := hU.oldB 33 (by kernel_rfl)
          have e34 : u 34 = undef := hU.oldB 34 (by kernel_rfl)
          have e35 : u 35 = undef := hU.oldB 35 (by kernel_rfl)
          have e36 : u 36 = undef := hU.oldB 36 (by kernel_rfl)
          have e37 : u 37 = undef := hU.oldB 37 (by kernel_rfl)
          have e38 : u 38 = undef := hU.oldB 38 (by kernel_rfl)
          have e39 : u 39 = undef := hU.oldB 39 (by kernel_rfl)
          have e40 : u 40 = .bool false := hU.oldB 40 (by kernel_rfl)
          have e41 : u 41 = .int .i64 (ix : Nat) := hU.oldB 41 (by kernel_rfl)
          have e42 : u 42 = .bool false := hU.oldB 42 (by kernel_rfl)
          have e43 : u 43 = undef := hU.oldB 43 (by kernel_rfl)
          have e44 : u 44 = undef := hU.oldB 44 (by kernel_rfl)
          have e45 : u 45 = undef := hU.oldB 45 (by kernel_rfl)
          have e46 : u 46 = undef := hU.oldB 46 (by kernel_rfl)
          have e47 : u 47 = undef := hU.oldB 47 (by kernel_rfl)
          have e48 : u 48 = undef := hU.oldB 48 (by kernel_rfl)
          have e49 : u 49 = undef := hU.oldB 49 (by kernel_rfl)
          have e50 : u 50 = undef := hU.oldB 50 (by kernel_rfl)
          have e51 : u 51 = undef := hU.oldB 51 (by kernel_rfl)
          have e52 : u 52 = undef := hU.oldB 52 (by kernel_rfl)
          have e53 : u 53 = undef := hU.oldB 53 (by kernel_rfl)
          have e54 : u 54 = undef := hU.oldB 54 (by kernel_rfl)
          rw [hA, e0, e1, e2, e3, e4, e5, e6, e7, e8, e9, e10, e11, e12, e13, e14, e15, e16, e17, e18, e19, e20, e21, e22, e23, e24, e25, e26, e27, e28, e29, e30, e31, e32, e33, e34, e35, e36, e37, e38, e39, e40, e41, e42, e43, e44, e45, e46, e47, e48, e49, e50, e51, e52, e53, e54]
          clear hA e0 e1 e2 e3 e4 e5 e6 e7 e8 e9 e10 e11 e12 e13 e14 e15 e16 e17 e18 e19 e20 e21 e22 e23 e24 e25 e26 e27 e28 e29 e30 e31 e32 e33 e34 e35 e36 e37 e38 e39 e40 e41 e42 e43 e44 e45 e46 e47 e48 e49 e50 e51 e52 e53 e54
          clear hU hW hall hw
          go_wp2_with fail
          exact bodyPost_ret (v := .tuple #[.int .i64 0, .int .i64 0]) (by simp [results, Tryz.results50, go_sem]) rfl ⟨by rw [HR.out], _, by rw [HR.out]; exact HRB.out, fun g e => Or.inl e, HKK.out⟩
    · have HR2 : Hid (letR names nm s = (q, (p : Int), names)) := by
        show _ = _
        rw [HR.out, hv]
      rw [hv]
      have e1 : ansV (.err q p) = .tuple #[.agg (numC ⟨⟨0, 0⟩, ⟨0, 0⟩⟩), .int .i64 q, .int .i64 p] := rfl
      rw [e1]
      have hne : (q != 0) = true := by simpa using hq
      clear hv hq e1 HVS HR CF
      go_upto_region 5 with fail
      have H3 : Hid (DB N B names v (w2.alloc (.cells (numC ⟨⟨0, 0⟩, ⟨0, 0⟩⟩) 92)) ∧ Below w.heap.size w (w2.alloc (.cells (numC ⟨⟨0, 0⟩, ⟨0, 0⟩⟩) 92))) := ⟨H2.out.1.below (fr_below w2 _), H2.out.2.trans ((fr_below w2 _).mono H2.out.2.size)⟩
      generalize w2.alloc _ = W4 at *
      clear H2
      go_wp2_with fail
      exact bodyPost_ret (v := .tuple #[.int .i64 q, .int .i64 p]) (by simp [results, Tryz.results50, go_sem]) rfl ⟨by rw [HR2.out], _, by rw [HR2.out]; exact H3.out.1, fun g e => Or.inl e, Kp.of_below H3.out.2⟩
  · have HR : Hid (letR names nm s = (3, 0, names)) := if_pos hok
    rw [hnm]
    clear hok hnm HNS
    go_wp2_with fail
    exact bodyPost_ret (v := .tuple #[.int .i64 3, .int .i64 0]) (by simp [results, Tryz.results50, go_sem]) rfl ⟨by rw [HR.out], _, by rw [HR.out]; exact H1.out.1, fun g e => Or.inl e, Kp.of_below H1.out.2⟩
end Go.Proofs.YtodabmkcihafhaaGreatDoor

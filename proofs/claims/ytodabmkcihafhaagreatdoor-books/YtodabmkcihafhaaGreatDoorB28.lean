import Derived.Laws.BitsLemmas
import Derived.Test.YtodabmkcihafhaaGreatDoorRows
import Derived.Test.YtodabmkcihafhaaGreatDoorCards
import Derived.Test.YtodabmkcihafhaaGreatDoorTie
import Derived.ProofKit
import Derived.ChangeSame
import Derived.ChangeVars
import Derived.JoinedOf
import Derived.RowKit
import Derived.LaidLaws
import Derived.LaidHandle
import Derived.Stop.LaidTwo
import Derived.OpenShut
import Derived.ShutString
import Derived.SevenTiedAt
import Derived.Lay
import Derived.LaidSub
import Derived.Test.YtodabmkcihafhaaGreatDoorB27
import Derived.Test.YtodabmkcihafhaaGreatDoorB20
import Derived.Test.YtodabmkcihafhaaGreatDoorB3
import Derived.Test.YtodabmkcihafhaaGreatDoorB0

/- Books: the law's lets. -/
namespace Go.Proofs.YtodabmkcihafhaaGreatDoor
open Go.RowKit
set_option linter.unusedVariables false
section
variable {N : Nat} {aZ aB : Addr} {K P m T r B : Nat} {S : Nat → Prop} {names : List (Int × Num)} {v : Value} {nm s : ByteArray} {W W' w1 : World}
theorem DB.lt (h : DB N B names v W) {g : Nat} (hg : v.ownBlock = some g) : N ≤ g ∧ ∃ cur, W.heap[g]? = some (.cells cur 141 (0, 0)) := by
  rcases h.row.2 with ⟨h1, _⟩ | ⟨b, cap, cur, e1, e2, e3, _⟩
  · rw [h1] at hg; cases hg
  · rw [e1] at hg
    simp only [Value.ownBlock, Option.some.injEq] at hg
    subst hg
    exact ⟨e2, cur, e3⟩
theorem Bk.beside {S2 : Nat → Prop} (h : Bk N aZ aB K P m T r names W) (g : Kp S2 W W') (hs : ∀ k, S2 k → N ≤ k ∧ ∃ c t f, W.heap[k]? = some (.cells c t f) ∧ t ≠ 73 ∧ t ≠ 118 ∧ t ≠ 164) : Bk N aZ aB K P m T r names W' := by
  obtain ⟨es, clock, m1, m2⟩ := h.pw.pg.hm
  obtain ⟨es', clock', r1, r2⟩ := h.pw.tb.hr
  have k1 : ¬ S2 K := fun e => by
    obtain ⟨_, c, t, f, h1, h2, h3, h4⟩ := hs K e
    rw [h.hK] at h1
    simp at h1
    exact h2 h1.2.1.symm
  have k2 : ¬ S2 P := fun e => by
    obtain ⟨_, c, t, f, h1, h2, h3, h4⟩ := hs P e
    rw [h.pw.hP] at h1
    simp at h1
    exact h3 h1.2.1.symm
  have k3 : ¬ S2 T := fun e => by
    obtain ⟨_, c, t, f, h1, h2, h3, h4⟩ := hs T e
    rw [h.pw.tb.ht] at h1
    simp at h1
    exact h4 h1.2.1.symm
  have k4 : ¬ S2 m := fun e => by
    obtain ⟨_, c, t, f, h1, _⟩ := hs m e
    rw [m1] at h1
    cases h1
  have k5 : ¬ S2 r := fun e => by
    obtain ⟨_, c, t, f, h1, _⟩ := hs r e
    rw [r1] at h1
    cases h1
  exact h.same (fun j hj => g.block j (by have := h.pw.pg.hN; omega) (fun e => by have := (hs j e).1; omega)) g.size (g.block _ (Array.getElem?_eq_some_iff.1 h.hK).1 k1) (g.block _ (Array.getElem?_eq_some_iff.1 h.pw.hP).1 k2) (g.block _ (Array.getElem?_eq_some_iff.1 m1).1 k4)
    (g.block _ (Array.getElem?_eq_some_iff.1 h.pw.tb.ht).1 k3) (g.block _ (Array.getElem?_eq_some_iff.1 r1).1 k5)
/-- Behind the program's Let, ahead of the document's. -/
structure Mid (N : Nat) (aZ aB : Addr) (S : Nat → Prop) (K B : Nat) (names : List (Int × Num)) (nm s : ByteArray) (W w1 : World) : Prop where
  ex : ∃ P m T r v, Bk N aZ aB K P m T r (letR names nm s).2.2 w1 ∧ DB N B names v w1 ∧ (S P ∨ W.heap.size ≤ P) ∧ (S m ∨ W.heap.size ≤ m) ∧ (S T ∨ W.heap.size ≤ T) ∧ (S r ∨ W.heap.size ≤ r) ∧ ∀ g, v.ownBlock = some g → S g
  k : Kp S W w1
  ok : ∀ q ∈ names, q.2.Ok
theorem bp_blet (h : BP N aZ aB S K B names W) : Calls Tryz.prog 23 #[.pointer (some ⟨K, 0, none⟩), .string nm, .string s] W fun e w1 => e = .returned (.tuple #[.int .i64 (letR names nm s).1, .int .i64 (letR names nm s).2.1]) ∧ Mid N aZ aB S K B names nm s W w1 := by
  obtain ⟨P, m, T, r, v, h1, h2, sP, sm, sT, sr, sg⟩ := h.ex
  refine (blet_any N aZ aB K P m T r names nm s W h1 h.u (h.lt K h.sK).1 h.nl).mono ?_
  rintro e w1 ⟨rfl, P', m', T', r', hbk, hk, a1, a2, a3, a4⟩
  obtain ⟨es, clock, hr, _⟩ := h1.pw.tb.hr
  have nB : ¬ (B = K ∨ B = r) := by
    rintro (e | e)
    · have := h2.hB; rw [e, h1.hK] at this; simp at this
    · have := h2.hB; rw [e, hr] at this; cases this
  refine ⟨rfl, ⟨P', m', T', r', v, hbk, h2.same (hk.block B (h.lt B h.sB).2 nB) (fun g hg => hk.block g (h.lt g (sg g hg)).2 ?_), ?_, ?_, ?_, ?_, sg⟩, hk.mono (fun k e => e.elim (fun e => e ▸ h.sK) (fun e => e ▸ sr)), h1.pw.nm⟩
  · obtain ⟨_, cur, hc⟩ := h2.lt hg
    rintro (e | e)
    · rw [e, h1.hK] at hc; simp at hc
    · rw [e, hr] at hc; cases hc
  · rcases a1 with rfl | a1
    · exact Or.inl sP
    · exact Or.inr a1
  · rcases a2 with rfl | a2
    · exact Or.inl sm
    · exact Or.inr a2
  · rcases a3 with rfl | a3
    · exact Or.inl sT
    · exact Or.inr a3
  · rcases a4 with rfl | a4
    · exact Or.inl sr
    · exact Or.inr a4
theorem bp_rlet (h : BP N aZ aB S K B names W) (hm : Mid N aZ aB S K B names nm s W w1) : Calls Tryz.prog 50 #[.pointer (some ⟨B, 0, none⟩), .string nm, .string s] w1 fun e w2 => e = .returned (.tuple #[.int .i64 (letR names nm s).1, .int .i64 (letR names nm s).2.1]) ∧
    (∃ S' : Nat → Prop, BP N aZ aB S' K B (letR names nm s).2.2 w2 ∧ ∀ k, S' k → S k ∨ W.heap.size ≤ k) ∧ Kp S W w2 := by
  obtain ⟨P, m, T, r, v, h1, h2, sP, sm, sT, sr, sg⟩ := hm.ex
  have hN := h1.pw.pg.hN
  have hN0 := h.sen.2
  refine (rlet_any N B names v nm s w1 hN h.nl hm.ok h2).mono ?_
  rintro e w2 ⟨rfl, v', hrb, hg', hk⟩
  have hs2 : ∀ k, (k = B ∨ v.ownBlock = some k) → N ≤ k ∧ ∃ c t f, w1.heap[k]? = some (.cells c t f) ∧ t ≠ 73 ∧ t ≠ 118 ∧ t ≠ 164 := by
    rintro k (rfl | e)
    · exact ⟨(h.lt _ h.sB).1, _, _, _, h2.hB, by decide, by decide, by decide⟩
    · obtain ⟨q1, cur, q2⟩ := h2.lt e
      exact ⟨q1, _, _, _, q2, by decide, by decide, by decide⟩
  have hb2 := h1.beside hk hs2
  have hkS : Kp S w1 w2 := hk.mono (fun k e => e.elim (fun e => e ▸ h.sB) (fun e => sg k e))
  have hK2 := hm.k.trans hkS
  obtain ⟨es, clock, m1, m2⟩ := hb2.pw.pg.hm
  obtain ⟨es', clock', r1, r2⟩ := hb2.pw.tb.hr
  have hz := hm.k.size
  refine ⟨rfl, ⟨fun k => (S k ∨ W.heap.size ≤ k) ∧ k < w2.heap.size, ⟨⟨P, m, T, r, v', hb2, hrb, ⟨sP, (Array.getElem?_eq_some_iff.1 hb2.pw.hP).1⟩, ⟨sm, (Array.getElem?_eq_some_iff.1 m1).1⟩, ⟨sT, (Array.getElem?_eq_some_iff.1 hb2.pw.tb.ht).1⟩, ⟨sr, (Array.getElem?_eq_some_iff.1 r1).1⟩, fun g e => ?_⟩,
    ⟨Or.inl h.sK, (Array.getElem?_eq_some_iff.1 hb2.hK).1⟩, ⟨Or.inl h.sB, (Array.getElem?_eq_some_iff.1 hrb.hB).1⟩, fun k hk' => ⟨?_, hk'.2⟩, let_len nm s h.nl, h.u.kept h.sen.1 (fun j hj => hK2.block j (by omega) (fun e => by have := (h.lt j e).1; omega))⟩, fun k hk' => hk'.1⟩, hK2⟩
  · obtain ⟨_, cur, hc⟩ := hrb.lt e
    refine ⟨?_, (Array.getElem?_eq_some_iff.1 hc).1⟩
    rcases hg' g e with e | e
    · exact Or.inl (sg g e)
    · exact Or.inr (by omega)
  · rcases hk'.1 with e | e
    · exact (h.lt k e).1
    · omega
set_option maxHeartbeats 2000000 in
theorem bp_lets (nm s : ByteArray) (h : BP N aZ aB S K B names W) : Calls Tryz.prog 30 #[prV K B, .string nm, .string s] W fun e w' => e = .returned (.bool true) ∧
    (∃ (S' : Nat → Prop) (names' : List (Int × Num)), BP N aZ aB S' K B names' w' ∧ ∀ k, S' k → S k ∨ W.heap.size ≤ k) ∧ Kp S W w' := by
  have C1 := hidMk (fun W0 (h0 : BP N aZ aB S K B names W0) => bp_blet (nm := nm) (s := s) h0)
  have C2 := hidMk (fun W0 w1 (h0 : BP N aZ aB S K B names W0) (hm : Mid N aZ aB S K B names nm s W0 w1) => bp_rlet h0 hm)
  have CM := hidMk (fun e W => num_any e W)
  have H0 := hidMk (h.below (fr_below W (.cells #[.pointer (some ⟨K, 0, none⟩), .pointer (some ⟨B, 0, none⟩)] 34)))
  have HX := hidMk (heap_alloc_new W (.cells #[.pointer (some ⟨K, 0, none⟩), .pointer (some ⟨B, 0, none⟩)] 34))
  have HB := hidMk (fr_below W (.cells #[.pointer (some ⟨K, 0, none⟩), .pointer (some ⟨B, 0, none⟩)] 34))
  have HNS : Hid (¬ S W.heap.size) := fun e => by have := (h.lt _ e).2; omega
  clear h
  go_enter Tryz.func30, Tryz.ntmps30
  go_upto_region 1 with fail
  generalize W.alloc _ = W0 at *
  obtain ⟨c0, c1, _, _⟩ := two_cells HX.out
  go_wp2_with fail
  refine (C1.out W0 H0.out).mono ?_
  rintro e w1 ⟨rfl, hm⟩
  have HM := hidMk hm
  clear hm c0 c1 C1
  have hx1 := (HM.out.k.block _ (Array.getElem?_eq_some_iff.1 HX.out).1 HNS.out).trans HX.out
  obtain ⟨c0, c1, _, _⟩ := two_cells hx1
  clear hx1
  go_wp2_with fail
  refine (C2.out W0 w1 H0.out HM.out).mono ?_
  rintro e w2 ⟨rfl, hs2, hk2⟩
  have HS2 := hidMk hs2
  have HK2 := hidMk hk2
  clear hs2 hk2 c0 c1 C2 HM
  generalize (letR names nm s).1 = q at *
  generalize (letR names nm s).2.1 = p at *
  go_wp2_with (go_at_call 15; refine (CM.out _ _).mono ?_; rintro e w3 ⟨rfl, rfl⟩)
  go_ret
  obtain ⟨S', hbp, hS'⟩ := HS2.out
  refine ⟨rfl, ⟨S', _, hbp, fun k hk => (hS' k hk).imp id (fun e => Nat.le_trans HB.out.size e)⟩, (Kp.of_below HB.out).trans HK2.out⟩
end
end Go.Proofs.YtodabmkcihafhaaGreatDoor

/- The law: what Print answers is what the document answers. -/
namespace Go.Proofs.YtodabmkcihafhaaGreatDoor
open Go.ChangeShapes Go.WideShapes Go.ChangeAt Go.RowKit
set_option linter.unusedVariables false

set_option maxHeartbeats 2000000 in
set_option maxRecDepth 100000 in
theorem prints_walk (s : ByteArray) (w : World) :
    Calls Tryz.prog 29 #[.string s] w fun e w' => e = .returned (.bool true) ∧ Below w.heap.size w w' := by
  have c1 := print_any s w
  have c2 := fun W => refPrint_any s W
  generalize refT s = T at *
  generalize refE s = E at *
  generalize refP s = Pl at *
  have C2 : Hid (∀ W, Calls Tryz.prog 49 #[.string s] W fun e w' => e = .returned (.tuple #[.string T, .int .i64 E, .int .i64 Pl]) ∧ Below W.heap.size W w') := c2
  clear c2
  go_enter Tryz.func29, Tryz.ntmps29
  go_wp2_with fail
  refine c1.mono ?_
  rintro e w1 ⟨rfl, hb1⟩
  go_wp2_with fail
  refine (C2.out _).mono ?_
  rintro e w2 ⟨rfl, hb2⟩
  have hb3 : Below w.heap.size w w2 := hb1.trans (hb2.mono hb1.size)
  clear hb1 hb2 c1 C2
  go_wp2_with fail
  refine (num_any E _).mono ?_
  rintro e w3 ⟨rfl, hw3⟩
  have hw3 := hw3.symm
  subst hw3
  go_wp2_with fail
  go_ret
  exact ⟨rfl, hb3⟩
end Go.Proofs.YtodabmkcihafhaaGreatDoor

/- Books: the law's script, two pairs of books beside each other. -/
namespace Go.Proofs.YtodabmkcihafhaaGreatDoor
open Go.RowKit
set_option linter.unusedVariables false
abbrev pr4 (K1 B1 K2 B2 : Nat) : Array Value := #[.pointer (some ⟨K1, 0, none⟩), .pointer (some ⟨B1, 0, none⟩), .pointer (some ⟨K2, 0, none⟩), .pointer (some ⟨B2, 0, none⟩)]
/-- Two pairs, apart; block L names them. -/
structure LI (N : Nat) (aZ aB : Addr) (w : World) (L : Nat) (W : World) : Prop where
  ex : ∃ (S1 S2 : Nat → Prop) (K1 B1 : Nat) (n1 : List (Int × Num)) (K2 B2 : Nat) (n2 : List (Int × Num)), BP N aZ aB S1 K1 B1 n1 W ∧ BP N aZ aB S2 K2 B2 n2 W ∧ (∀ k, S1 k → ¬ S2 k) ∧ ¬ S1 L ∧ ¬ S2 L ∧ (∀ k, S1 k → w.heap.size ≤ k) ∧ (∀ k, S2 k → w.heap.size ≤ k) ∧ W.heap[L]? = some (.cells (pr4 K1 B1 K2 B2) 34 (0, 0))
  hN : N ≤ w.heap.size
  hL : w.heap.size ≤ L
  hb : Below w.heap.size w W
section
variable {N : Nat} {aZ aB : Addr} {w : World} {L : Nat} {W W' : World}
theorem LI.below (h : LI N aZ aB w L W) (g : Below W.heap.size W W') : LI N aZ aB w L W' := by
  obtain ⟨S1, S2, K1, B1, n1, K2, B2, n2, h1, h2, h3, h4, h5, h6, h7, h8⟩ := h.ex
  exact ⟨⟨S1, S2, K1, B1, n1, K2, B2, n2, h1.below g, h2.below g, h3, h4, h5, h6, h7, (g.block _ (Array.getElem?_eq_some_iff.1 h8).1).trans h8⟩, h.hN, h.hL, h.hb.trans (g.mono h.hb.size)⟩
theorem Kp.lowS {S : Nat → Prop} {a : World} (h : Kp S W W') (hs : ∀ k, S k → a.heap.size ≤ k) (hz : a.heap.size ≤ W.heap.size) : Below a.heap.size W W' := ⟨h.os, h.tape, h.output, h.size, fun k hk => h.block k (by omega) (fun e => by have := hs k e; omega)⟩
/-- A step on the first pair. -/
theorem LI.one {S1 S2 S' : Nat → Prop} {K1 B1 K2 B2 : Nat} {n1 n2 n' : List (Int × Num)} (h : LI N aZ aB w L W) (h1 : BP N aZ aB S1 K1 B1 n1 W) (h2 : BP N aZ aB S2 K2 B2 n2 W) (hd : ∀ k, S1 k → ¬ S2 k) (l1 : ¬ S1 L) (l2 : ¬ S2 L) (b1 : ∀ k, S1 k → w.heap.size ≤ k) (b2 : ∀ k, S2 k → w.heap.size ≤ k) (hL : L < W.heap.size)
    (g : BP N aZ aB S' K1 B1 n' W') (hk : Kp S1 W W') (hs : ∀ k, S' k → S1 k ∨ W.heap.size ≤ k) :
    BP N aZ aB S2 K2 B2 n2 W' ∧ (∀ k, S' k → ¬ S2 k) ∧ ¬ S' L ∧ (∀ k, S' k → w.heap.size ≤ k) ∧ W'.heap[L]? = W.heap[L]? ∧ Below w.heap.size w W' := by
  have hz := h.hb.size
  refine ⟨h2.kept hk (fun k e e' => hd k e' e) (fun k e => (h1.lt k e).1), fun k e e2 => ?_, fun e => ?_, fun k e => ?_, hk.block L hL l1, h.hb.trans (hk.lowS b1 hz)⟩
  · rcases hs k e with e1 | e1
    · exact hd k e1 e2
    · have := (h2.lt k e2).2; omega
  · rcases hs L e with e1 | e1
    · exact l1 e1
    · omega
  · rcases hs k e with e1 | e1
    · exact b1 k e1
    · omega
theorem LI.at (h : LI N aZ aB w L W) (j : Nat) (hj : j < 2) : ∃ (S : Nat → Prop) (K B : Nat) (names : List (Int × Num)), BP N aZ aB S K B names W ∧ W.cell? ⟨L, j * 2, none⟩ = some (.pointer (some ⟨K, 0, none⟩)) ∧ W.cell? ⟨L, j * 2 + 1, none⟩ = some (.pointer (some ⟨B, 0, none⟩)) := by
  obtain ⟨S1, S2, K1, B1, n1, K2, B2, n2, h1, h2, h3, h4, h5, h6, h7, h8⟩ := h.ex
  obtain ⟨c0, c1, c2, c3⟩ := four_cells h8
  rcases j with _ | _ | j
  · exact ⟨S1, K1, B1, n1, h1, c0, c1⟩
  · exact ⟨S2, K2, B2, n2, h2, c2, c3⟩
  · omega
/-- A step on either pair. -/
theorem LI.step (h : LI N aZ aB w L W) (j : Nat) (hj : j < 2) {K B : Nat} (cK : W.cell? ⟨L, j * 2, none⟩ = some (.pointer (some ⟨K, 0, none⟩))) (cB : W.cell? ⟨L, j * 2 + 1, none⟩ = some (.pointer (some ⟨B, 0, none⟩))) :
    ∃ (S : Nat → Prop) (names : List (Int × Num)), BP N aZ aB S K B names W ∧ ∀ W' (S' : Nat → Prop) (names' : List (Int × Num)), BP N aZ aB S' K B names' W' → Kp S W W' → (∀ k, S' k → S k ∨ W.heap.size ≤ k) → LI N aZ aB w L W' := by
  obtain ⟨S1, S2, K1, B1, n1, K2, B2, n2, h1, h2, h3, h4, h5, h6, h7, h8⟩ := h.ex
  obtain ⟨c0, c1, c2, c3⟩ := four_cells h8
  have hl := (Array.getElem?_eq_some_iff.1 h8).1
  rcases j with _ | _ | j
  · obtain rfl : K1 = K := by rw [show (0 * 2) = 0 by rfl, c0] at cK; simpa using cK
    obtain rfl : B1 = B := by rw [show (0 * 2 + 1) = 1 by rfl, c1] at cB; simpa using cB
    refine ⟨S1, n1, h1, fun W' S' n' g hk hs => ?_⟩
    obtain ⟨a1, a2, a3, a4, a5, a6⟩ := h.one h1 h2 h3 h4 h5 h6 h7 hl g hk hs
    exact ⟨⟨S', S2, _, _, n', _, _, n2, g, a1, a2, a3, h5, a4, h7, a5.trans h8⟩, h.hN, h.hL, a6⟩
  · obtain rfl : K2 = K := by rw [show ((0 + 1) * 2) = 2 by rfl, c2] at cK; simpa using cK
    obtain rfl : B2 = B := by rw [show ((0 + 1) * 2 + 1) = 3 by rfl, c3] at cB; simpa using cB
    refine ⟨S2, n2, h2, fun W' S' n' g hk hs => ?_⟩
    obtain ⟨a1, a2, a3, a4, a5, a6⟩ := h.one h2 h1 (fun k e e' => h3 k e' e) h5 h4 h7 h6 hl g hk hs
    exact ⟨⟨S1, S', _, _, n1, _, _, n', a1, g, fun k e e' => a2 k e' e, h4, a3, h6, a4, a5.trans h8⟩, h.hN, h.hL, a6⟩
  · omega
/-- A new pair in the place of one. -/
theorem LI.new (h : LI N aZ aB w L W) (j : Nat) (hj : j < 2) {S' : Nat → Prop} {K B : Nat} {n' : List (Int × Num)} (g : BP N aZ aB S' K B n' W') (hb : Below W.heap.size W W') (hs : ∀ k, S' k → W.heap.size ≤ k) :
    LI N aZ aB w L ((W'.setCell ⟨L, j * 2, none⟩ (.pointer (some ⟨K, 0, none⟩))).setCell ⟨L, j * 2 + 1, none⟩ (.pointer (some ⟨B, 0, none⟩))) := by
  have h' := h.below hb
  obtain ⟨S1, S2, K1, B1, n1, K2, B2, n2, h1, h2, h3, h4, h5, h6, h7, h8⟩ := h.ex
  have hl := (Array.getElem?_eq_some_iff.1 h8).1
  have h8' := (hb.block _ hl).trans h8
  have hkL : Kp (· = L) W' ((W'.setCell ⟨L, j * 2, none⟩ (.pointer (some ⟨K, 0, none⟩))).setCell ⟨L, j * 2 + 1, none⟩ (.pointer (some ⟨B, 0, none⟩))) := ((Kp.refl (· = L) W').setCell (p := ⟨L, j * 2, none⟩) (Or.inl rfl) _).setCell (p := ⟨L, j * 2 + 1, none⟩) (Or.inl rfl) _
  have nL : ∀ k, k = L → N ≤ k := fun k e => by have := h.hN; have := h.hL; omega
  have nS : ¬ S' L := fun e => by have := hs L e; omega
  have hz := h.hb.size
  have gk := g.kept hkL (fun k e e' => nS (e' ▸ e)) nL
  have lowB : Below w.heap.size w ((W'.setCell ⟨L, j * 2, none⟩ (.pointer (some ⟨K, 0, none⟩))).setCell ⟨L, j * 2 + 1, none⟩ (.pointer (some ⟨B, 0, none⟩))) := h'.hb.trans (hkL.lowS (fun k e => by rw [e]; exact h.hL) h'.hb.size)
  have bS : ∀ k, S' k → w.heap.size ≤ k := fun k e => Nat.le_trans hz (hs k e)
  rcases j with _ | _ | j
  · refine ⟨⟨S', S2, K, B, n', K2, B2, n2, gk, (h2.below hb).kept hkL (fun k e e' => h5 (e' ▸ e)) nL, fun k e e2 => ?_, nS, h5, bS, h7, ?_⟩, h.hN, h.hL, lowB⟩
    · have := hs k e; have := (h2.lt k e2).2; omega
    · simp [World.setCell, Array.getElem?_modify, h8']
  · refine ⟨⟨S1, S', K1, B1, n1, K, B, n', (h1.below hb).kept hkL (fun k e e' => h4 (e' ▸ e)) nL, gk, fun k e e2 => ?_, h4, nS, h6, bS, ?_⟩, h.hN, h.hL, lowB⟩
    · have := hs k e2; have := (h1.lt k e).2; omega
    · simp [World.setCell, Array.getElem?_modify, h8']
  · omega
theorem LI.frozen (h : LI N aZ aB w L W) (k : Nat) : W.frozen? ⟨L, k, none⟩ = false := by
  obtain ⟨S1, S2, K1, B1, n1, K2, B2, n2, h1, h2, h3, h4, h5, h6, h7, h8⟩ := h.ex
  unfold World.frozen?
  rw [h8]
  simp
/-- Two new pairs, and the block that names them. -/
theorem LI.start {S1 S2 : Nat → Prop} {K1 B1 K2 B2 : Nat} (hN : N ≤ w.heap.size) (h1 : BP N aZ aB S1 K1 B1 [] W) (h2 : BP N aZ aB S2 K2 B2 [] W) (hd : ∀ k, S1 k → ¬ S2 k) (b1 : ∀ k, S1 k → w.heap.size ≤ k) (b2 : ∀ k, S2 k → w.heap.size ≤ k) (hb : Below w.heap.size w W) :
    LI N aZ aB w W.heap.size (W.alloc (.cells (pr4 K1 B1 K2 B2) 34)) := by
  have g := fr_below W (.cells (pr4 K1 B1 K2 B2) 34)
  exact ⟨⟨S1, S2, K1, B1, [], K2, B2, [], h1.below g, h2.below g, hd, fun e => (by have := (h1.lt _ e).2; omega), fun e => (by have := (h2.lt _ e).2; omega), b1, b2, heap_alloc_new W _⟩, hN, hb.size, hb.trans (g.mono hb.size)⟩
end
end Go.Proofs.YtodabmkcihafhaaGreatDoor

/- Books: the law. -/
namespace Go.Proofs.YtodabmkcihafhaaGreatDoor
open Go.RowKit
set_option linter.unusedVariables false
/-- A script: its steps, cell by cell. -/
def Scr (w : World) (sa : Option Addr) (len : Nat) : Prop :=
  ∀ i, i < len → ∃ (sb so : Nat) (kd a b : Int) (s t : ByteArray), sa = some ⟨sb, so, none⟩ ∧ w.cell? ⟨sb, so + i * 5, none⟩ = some (.int .i64 kd) ∧ w.cell? ⟨sb, so + i * 5 + 1, none⟩ = some (.int .i64 a) ∧ w.cell? ⟨sb, so + i * 5 + 2, none⟩ = some (.int .i64 b) ∧ w.cell? ⟨sb, so + i * 5 + 3, none⟩ = some (.string s) ∧ w.cell? ⟨sb, so + i * 5 + 4, none⟩ = some (.string t)
theorem i64_and1 (n : Int) : bits .and .i64 n 1 = n % 2 := by
  have h1 : (BitVec.ofInt 64 1).toNat = 2 ^ 1 - 1 := by decide
  have key : (BitVec.ofInt 64 n &&& BitVec.ofInt 64 1).toNat = (n % ((2 ^ 64 : Nat) : Int)).toNat % 2 ^ 1 := by
    rw [BitVec.toNat_and, BitVec.toNat_ofInt, h1, Nat.and_two_pow_sub_one_eq_mod]
  show IntKind.i64.wrap ((BitVec.ofInt 64 n &&& BitVec.ofInt 64 1).toNat : Nat) = n % 2
  rw [key, IntKind.wrap_i64]
  omega
theorem bit_one (n : Int) : ∃ ix : Nat, bits .and .i64 n 1 = (ix : Int) ∧ ix < 2 := ⟨(n % 2).toNat, by rw [i64_and1]; omega, by omega⟩
theorem five_cells {w : World} {B : Nat} {a b c d e : Value} {t : TypeId} (h : w.heap[B]? = some (.cells #[a, b, c, d, e] t (0, 0))) : w.cell? ⟨B, 0, none⟩ = some a ∧ w.cell? ⟨B, 1, none⟩ = some b ∧ w.cell? ⟨B, 2, none⟩ = some c ∧ w.cell? ⟨B, 3, none⟩ = some d ∧ w.cell? ⟨B, 4, none⟩ = some e := by
  simp [World.cell?, h]
set_option maxHeartbeats 16000000 in
set_option maxRecDepth 100000 in
theorem books_law (N : Nat) (aZ aB : Addr) (sa : Option Addr) (len cap : Nat) (w : World) (hS : Sen N aZ aB w) (hU : U8T w) (hN : N ≤ w.heap.size) (hscr : Scr w sa len) (hlc : len ≤ cap) (hcm : cap ≤ maxLen) :
    Calls Tryz.prog 11 #[.slice sa len cap] w fun e w' => e = .returned (.bool true) ∧ Below w.heap.size w w' := by
  have CP := hidMk (fun W (hb : Below w.heap.size w W) => bp_pair N aZ aB W (hS.below hb hN) (hU.kept hS (fun j hj => hb.block j (by omega))) (Nat.le_trans hN hb.size))
  have HSC := hidMk hscr
  have HN := hidMk hN
  clear hS hU hN hscr
  go_enter Tryz.func11, Tryz.ntmps11
  go_wp2_with fail
  refine (CP.out w (Below.refl _ _)).mono ?_
  rintro e w1 ⟨K1, B1, rfl, hp1, hb1⟩
  have HP1 := hidMk hp1
  have HB1 := hidMk hb1
  clear hp1 hb1
  go_upto_region 2 with fail
  have HP2 := hidMk (HP1.out.below (fr_below w1 (.cells #[.pointer (some ⟨K1, 0, none⟩), .pointer (some ⟨B1, 0, none⟩)] 34)))
  have HB2 := hidMk (HB1.out.trans ((fr_below w1 (.cells #[.pointer (some ⟨K1, 0, none⟩), .pointer (some ⟨B1, 0, none⟩)] 34)).mono HB1.out.size))
  have HX2 := hidMk (heap_alloc_new w1 (.cells #[.pointer (some ⟨K1, 0, none⟩), .pointer (some ⟨B1, 0, none⟩)] 34))
  generalize w1.alloc _ = W2 at *
  generalize w1.heap.size = b3 at *
  clear HP1 HB1
  go_wp2_with fail
  refine (CP.out W2 HB2.out).mono ?_
  rintro e w3 ⟨K2, B2, rfl, hp3, hb3⟩
  have HP3 := hidMk hp3
  have HQ3 := hidMk (HP2.out.below hb3)
  have HX3 := hidMk ((hb3.block _ (Array.getElem?_eq_some_iff.1 HX2.out).1).trans HX2.out)
  have HB3 := hidMk (HB2.out.trans (hb3.mono HB2.out.size))
  have HL2 := hidMk (Array.getElem?_eq_some_iff.1 HX2.out).1
  have HZ2 := hidMk HB2.out.size
  clear hp3 hb3 HP2 HX2 HB2
  go_upto_region 3 with fail
  have HP4 := hidMk (HP3.out.below (fr_below w3 (.cells #[.pointer (some ⟨K2, 0, none⟩), .pointer (some ⟨B2, 0, none⟩)] 34)))
  have HQ4 := hidMk (HQ3.out.below (fr_below w3 (.cells #[.pointer (some ⟨K2, 0, none⟩), .pointer (some ⟨B2, 0, none⟩)] 34)))
  have HB4 := hidMk (HB3.out.trans ((fr_below w3 (.cells #[.pointer (some ⟨K2, 0, none⟩), .pointer (some ⟨B2, 0, none⟩)] 34)).mono HB3.out.size))
  have HX4 := hidMk (((fr_below w3 (.cells #[.pointer (some ⟨K2, 0, none⟩), .pointer (some ⟨B2, 0, none⟩)] 34)).block _ (Array.getElem?_eq_some_iff.1 HX3.out).1).trans HX3.out)
  have HY4 := hidMk (heap_alloc_new w3 (.cells #[.pointer (some ⟨K2, 0, none⟩), .pointer (some ⟨B2, 0, none⟩)] 34))
  generalize w3.alloc _ = W4 at *
  generalize w3.heap.size = b5 at *
  clear HP3 HQ3 HX3 HB3
  obtain ⟨x0, x1, _, _⟩ := two_cells HX4.out
  obtain ⟨y0, y1, _, _⟩ := two_cells HY4.out
  go_upto_region 6 with fail
  have HLI : Hid (LI N aZ aB w W4.heap.size (W4.alloc (.cells (pr4 K1 B1 K2 B2) 34))) :=
    LI.start HN.out HQ4.out HP4.out (fun k e e' => by have := e.2; have := e'.1; have := HL2.out; omega) (fun k e => e.1) (fun k e => Nat.le_trans HZ2.out e.1) HB4.out
  generalize W4.alloc _ = W5 at *
  generalize W4.heap.size = L at *
  clear x0 x1 y0 y1 HX4 HY4 HP4 HQ4 HB4 HL2 HZ2
  go_wp2_with fail
  go_loopg [8] len (fun g s8 wr => ∃ k : Nat, s8 = .int .i64 k ∧ k ≤ len ∧ Hid (len - k = g) ∧ Hid (LI N aZ aB w L wr))
  case atStart => exact ⟨0, rfl, Nat.zero_le _, rfl, HLI.out⟩
  case round =>
    obtain ⟨k, rfl, hk, hg, HI⟩ := hrel
    clear HLI
    by_cases hkn : k < len ∧ k < 1152921504606846976
    · obtain ⟨sb, so, kd, a, b, s, t, hsa, r0, r1, r2, r3, r4⟩ := HSC.out k hkn.1
      subst hsa
      have low : ∀ p v, w.cell? p = some v → wr.cell? p = some v := fun p v h => by rw [HI.out.hb.cell (World.block_lt_of_cell? _ _ h)]; exact h
      replace r0 := low _ _ r0
      replace r1 := low _ _ r1
      replace r2 := low _ _ r2
      replace r3 := low _ _ r3
      replace r4 := low _ _ r4
      have q1 : (k : Int) < (len : Int) := by omega
      have q2 : (k : Int) < 1152921504606846976 := by omega
      clear low
      go_upto_region 10 with fail
      have HI1 := hidMk (HI.out.below (fr_below wr (.cells #[.int .i64 kd, .int .i64 a, .int .i64 b, .string s, .string t] 60)))
      have HO1 := hidMk (heap_alloc_new wr (.cells #[.int .i64 kd, .int .i64 a, .int .i64 b, .string s, .string t] 60))
      generalize wr.alloc _ = W1 at *
      generalize wr.heap.size = b9 at *
      clear r0 r1 r2 r3 r4 HI q1 q2
      obtain ⟨o0, o1, o2, o3, o4⟩ := five_cells HO1.out
      obtain ⟨ix, hix, hlt⟩ := bit_one b
      obtain ⟨S0, K, B, n0, _, cK, cB⟩ := HI1.out.at ix hlt
      have hlt' : (ix : Int) < 2 := by omega
      go_upto_region 11 with fail
      have HI2 := hidMk (HI1.out.below (fr_below W1 (.cells #[.pointer (some ⟨K, 0, none⟩), .pointer (some ⟨B, 0, none⟩)] 34)))
      have HO2 := hidMk (((fr_below W1 (.cells #[.pointer (some ⟨K, 0, none⟩), .pointer (some ⟨B, 0, none⟩)] 34)).block _ (Array.getElem?_eq_some_iff.1 HO1.out).1).trans HO1.out)
      have HX2 := hidMk (heap_alloc_new W1 (.cells #[.pointer (some ⟨K, 0, none⟩), .pointer (some ⟨B, 0, none⟩)] 34))
      have CK := hidMk (((fr_below W1 (.cells #[.pointer (some ⟨K, 0, none⟩), .pointer (some ⟨B, 0, none⟩)] 34)).cell (World.block_lt_of_cell? _ _ cK)).trans cK)
      have CB := hidMk (((fr_below W1 (.cells #[.pointer (some ⟨K, 0, none⟩), .pointer (some ⟨B, 0, none⟩)] 34)).cell (World.block_lt_of_cell? _ _ cB)).trans cB)
      generalize W1.alloc _ = W2 at *
      generalize W1.heap.size = b10 at *
      clear HI1 HO1 o0 o1 o2 o3 o4 cK cB
      have HIX := hidMk hlt
      obtain ⟨S, names, hbp, hst⟩ := HI2.out.step ix hlt CK.out CB.out
      have HBP := hidMk hbp
      have HST := hidMk hst
      clear hbp hst
      obtain ⟨o0, o1, o2, o3, o4⟩ := five_cells HO2.out
      obtain ⟨p0, p1, _, _⟩ := two_cells HX2.out
      by_cases hk1 : kd = 1
      · subst hk1
        go_wp2_with fail
        refine (prints_walk s W2).mono ?_
        rintro e w3 ⟨rfl, hb3⟩
        have H3 := hidMk (HI2.out.below hb3)
        clear HI2 HST HBP o0 o1 o2 o3 o4 p0 p1
        go_wp2_with fail
        go_roundg (len - (k + 1))
        case measure => have := hg.out; omega
        case rel => exact ⟨k + 1, rfl, by omega, rfl, H3.out⟩
      by_cases hk2 : kd = 2
      · subst hk2
        go_wp2_with fail
        refine (bp_lets t s HBP.out).mono ?_
        rintro e w3 ⟨rfl, ⟨S', n', hbp', hS'⟩, hk'⟩
        have H3 := hidMk (HST.out w3 S' n' hbp' hk' hS')
        clear HI2 HST HBP o0 o1 o2 o3 o4 p0 p1
        go_wp2_with fail
        go_roundg (len - (k + 1))
        case measure => have := hg.out; omega
        case rel => exact ⟨k + 1, rfl, by omega, rfl, H3.out⟩
      by_cases hk3 : kd = 3
      · subst hk3
        go_wp2_with fail
        refine (bp_values s HBP.out).mono ?_
        rintro e w3 ⟨rfl, hbp', hk'⟩
        have H3 := hidMk (HST.out w3 S names hbp' hk' (fun k e => Or.inl e))
        clear HI2 HST HBP o0 o1 o2 o3 o4 p0 p1
        go_wp2_with fail
        go_roundg (len - (k + 1))
        case measure => have := hg.out; omega
        case rel => exact ⟨k + 1, rfl, by omega, rfl, H3.out⟩
      by_cases hk4 : kd = 4
      · subst hk4
        go_wp2_with fail
        refine (bp_digits s a HBP.out).mono ?_
        rintro e w3 ⟨rfl, hbp', hk'⟩
        have H3 := hidMk (HST.out w3 S names hbp' hk' (fun k e => Or.inl e))
        clear HI2 HST HBP o0 o1 o2 o3 o4 p0 p1
        go_wp2_with fail
        go_roundg (len - (k + 1))
        case measure => have := hg.out; omega
        case rel => exact ⟨k + 1, rfl, by omega, rfl, H3.out⟩
      by_cases hk5 : kd = 5
      · subst hk5
        go_wp2_with fail
        refine (bp_nears s a HBP.out).mono ?_
        rintro e w3 ⟨rfl, hbp', hk'⟩
        have H3 := hidMk (HST.out w3 S names hbp' hk' (fun k e => Or.inl e))
        clear HI2 HST HBP o0 o1 o2 o3 o4 p0 p1
        go_wp2_with fail
        go_roundg (len - (k + 1))
        case measure => have := hg.out; omega
        case rel => exact ⟨k + 1, rfl, by omega, rfl, H3.out⟩
      by_cases hk6 : kd = 6
      · subst hk6
        go_wp2_with fail
        refine (CP.out W2 HI2.out.hb).mono ?_
        rintro e w3 ⟨K', B', rfl, hp3, hb3⟩
        have HP3 := hidMk hp3
        have HB3 := hidMk hb3
        clear hp3 hb3 HST HBP o0 o1 o2 o3 o4 p0 p1
        go_upto_region 25 with fail
        have HP4 := hidMk (HP3.out.below (fr_below w3 (.cells #[.pointer (some ⟨K', 0, none⟩), .pointer (some ⟨B', 0, none⟩)] 34)))
        have HB4 := hidMk (HB3.out.trans ((fr_below w3 (.cells #[.pointer (some ⟨K', 0, none⟩), .pointer (some ⟨B', 0, none⟩)] 34)).mono HB3.out.size))
        have HY4 := hidMk (heap_alloc_new w3 (.cells #[.pointer (some ⟨K', 0, none⟩), .pointer (some ⟨B', 0, none⟩)] 34))
        generalize w3.alloc _ = W4 at *
        generalize w3.heap.size = b11 at *
        clear HP3 HB3
        have HO4 := (HB4.out.block _ (Array.getElem?_eq_some_iff.1 HO2.out).1).trans HO2.out
        obtain ⟨o0, o1, o2, o3, o4⟩ := five_cells HO4
        obtain ⟨y0, y1, _, _⟩ := two_cells HY4.out
        have d0 := (HB4.out.cell (World.block_lt_of_cell? _ _ CK.out)).trans CK.out
        have d1 := (HB4.out.cell (World.block_lt_of_cell? _ _ CB.out)).trans CB.out
        have f0 := (HI2.out.below HB4.out).frozen (ix * 2)
        have f1 := (HI2.out.below HB4.out).frozen (ix * 2 + 1)
        have H3 := hidMk (HI2.out.new ix HIX.out HP4.out HB4.out (fun k e => e.1))
        clear HP4 HB4 HI2 HO4
        go_wp2_with fail
        go_roundg (len - (k + 1))
        case measure => have := hg.out; omega
        case rel => exact ⟨k + 1, rfl, by omega, rfl, H3.out⟩
      have e1 : (kd == 1) = false := by simpa using hk1
      have e2 : (kd == 2) = false := by simpa using hk2
      have e3 : (kd == 3) = false := by simpa using hk3
      have e4 : (kd == 4) = false := by simpa using hk4
      have e5 : (kd == 5) = false := by simpa using hk5
      have e6 : (kd == 6) = false := by simpa using hk6
      clear hk1 hk2 hk3 hk4 hk5 hk6
      go_wp2_with fail
      go_roundg (len - (k + 1))
      case measure => have := hg.out; omega
      case rel => exact ⟨k + 1, rfl, by omega, rfl, HI2.out⟩
    · have hk2 : k = len ∨ (k < len ∧ ¬ k < 1152921504606846976) := by omega
      rcases hk2 with hk2 | ⟨hk2, hk3⟩
      · have q1 : ¬ (k : Int) < (len : Int) := by omega
        clear hkn hk2
        go_wp2_with fail
        go_ret
        exact ⟨rfl, HI.out.hb⟩
      · have q1 : (k : Int) < (len : Int) := by omega
        have q2 : ¬ (k : Int) < 1152921504606846976 := by omega
        clear hkn hk2 hk3
        go_wp2_with fail
        go_ret
        exact ⟨rfl, HI.out.hb⟩
end Go.Proofs.YtodabmkcihafhaaGreatDoor

/- What the listed variables give a walk; a world that has them. -/
namespace Go.Proofs.YtodabmkcihafhaaGreatDoor
open Go.ChangeShapes Go.WideShapes Go.ChangeAt Go.RowKit
open Go.ChangeMaps (open_string shut_string)
set_option linter.unusedVariables false

theorem own : ownKnob Tryz.prog.godebug = none := by kernel_rfl
theorem gZ : Tryz.prog.globalNamed "rill/number.ErrZero" = some 2 := by kernel_rfl
theorem gB : Tryz.prog.globalNamed "rill/number.ErrBig" = some 4 := by kernel_rfl
theorem gZt : (Tryz.prog.globals[2]?).map (·.type) = some 180 := by kernel_rfl
theorem gBt : (Tryz.prog.globals[4]?).map (·.type) = some 180 := by kernel_rfl
theorem cellsES : Tryz.prog.cellsOf 307 = 1 := by kernel_rfl
theorem cellsStr : Tryz.prog.cellsOf 9 = 1 := by kernel_rfl
theorem starES : "*" ++ "errors.errorString" = "*errors.errorString" := by decide
theorem rowES (u : TypeId) (h : Tryz.prog.typeName? 3 u = some "*errors.errorString") : u = 285 :=
  typeName_ptr_named (nm := "errors.errorString") (by rw [starES]; kernel_rfl) (by kernel_rfl) (by decide) u (by rw [starES]; exact h)
abbrev lst2 {H : Type} : List (String × DataW H) := [("rill/number.ErrZero", Rows.laid_rill_number_ErrZero), ("rill/number.ErrBig", Rows.laid_rill_number_ErrBig)]
theorem laid_met (os : Os) (args : Array Value) : laidMet Tryz.prog lst2 ((World.laidAll Tryz.prog os lst2).forCall (fun _ _ => 0) ⟨#[], args, []⟩).memory := laidMet_laidAll args (by kernel_rfl) (by kernel_rfl)
/-- The two errors, as the walks want them. -/
theorem sen_of {W : World} (h : laidMet Tryz.prog lst2 W) : ∃ aZ aB, Sen W.heap.size aZ aB W := by
  obtain ⟨a0, a1, s0, s1, c0, c1, t0, t1, hv0, hv1, hc0, hs0, hz0, hc1, hs1, hz1, hne, hb0, hb1⟩ := laid_sentinels2 h gZ gZt gB gBt Tryz.underlying180 rowES Tryz.underlying285 Tryz.underlying307 rfl rfl Tryz.underlying9 cellsES cellsStr
  have z := World.var?_cell gZ hv0 0
  have b := World.var?_cell gB hv1 0
  refine ⟨a0, a1, ⟨by simpa using z, by simpa using b, fun e => hne e.symm, ⟨c0, t0, hb0⟩, ⟨c1, t1, hb1⟩, ?_, (Array.getElem?_eq_some_iff.1 hb0).1, (Array.getElem?_eq_some_iff.1 hb1).1⟩⟩
  have h4 : 4 < W.heap.size := World.block_lt_of_cell? W ⟨4, 0, none⟩ (by simpa using b)
  omega
end Go.Proofs.YtodabmkcihafhaaGreatDoor

/- What the listed variables give a walk, where unicode/utf8's tables are listed too. -/
namespace Go.Proofs.YtodabmkcihafhaaGreatDoor
open Go.ChangeShapes Go.WideShapes Go.ChangeAt Go.RowKit
set_option linter.unusedVariables false
abbrev lst4 : List (String × DataW Unit) := [("unicode/utf8.acceptRanges", Rows.laid_unicode_utf8_acceptRanges), ("rill/number.ErrZero", Rows.laid_rill_number_ErrZero), ("rill/number.ErrBig", Rows.laid_rill_number_ErrBig), ("unicode/utf8.first", Rows.laid_unicode_utf8_first)]
theorem laid_met4 (os : Os) (args : Array Value) : laidMet Tryz.prog lst4 ((World.laidAll Tryz.prog os lst4).forCall (fun _ _ => 0) ⟨#[], args, []⟩).memory := laidMet_laidAll args (by kernel_rfl) (by kernel_rfl)
theorem sen_of4 {W : World} (h : laidMet Tryz.prog lst4 W) : ∃ aZ aB, Sen W.heap.size aZ aB W :=
  sen_of (h.filter (fun x => x.1 == "rill/number.ErrZero" || x.1 == "rill/number.ErrBig"))
theorem firstEq : Rows.laid_unicode_utf8_first = Lib.firstData := by kernel_rfl
theorem acceptEq : (Rows.laid_unicode_utf8_acceptRanges : DataW Unit) = Lib.acceptData := by kernel_rfl
theorem u8_of4 {W : World} (h : laidMet Tryz.prog lst4 W) : U8T W :=
  u8t_of_reads (firstEq ▸ Lib.laidMet.reads h (.tail _ (.tail _ (.tail _ (.head _))))) (acceptEq ▸ Lib.laidMet.reads h (.head _))
end Go.Proofs.YtodabmkcihafhaaGreatDoor

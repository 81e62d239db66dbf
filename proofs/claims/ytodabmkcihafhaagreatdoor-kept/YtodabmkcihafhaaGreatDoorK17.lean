import Derived.Conc.MuLone
import Derived.Deep.LoopGhost
import Derived.Deep.DeepCutAuto
import Derived.Test.YtodabmkcihafhaaGreatDoorK16
import Derived.Test.YtodabmkcihafhaaGreatDoorK11
import Derived.Test.YtodabmkcihafhaaGreatDoorK6
import Derived.Test.YtodabmkcihafhaaGreatDoorK1

/- The program's table of what was worked, and its book. -/
namespace Go.Proofs.YtodabmkcihafhaaGreatDoor
open Go.RowKit Go.MuLone
set_option linter.unusedVariables false

/-- What a text comes to. -/
def valS (names : List (Int × Num)) (s : ByteArray) : Ans := if 120 < s.size then .err 1 0 else if good s = true then valT (envOf names) (treeT s) else .err 2 (hp (top s).ts)
/-- What is kept is right. -/
def keE (names : List (Int × Num)) (es : Array MapEntry) : Prop := ∀ x ∈ es.toList, ∃ s v, x.key = .string s ∧ x.val = nV v ∧ valS names s = .ok v
theorem find_kept (names : List (Int × Num)) (s : ByteArray) : ∀ (l : List MapEntry) (i : Nat), (∀ x ∈ l, ∃ t v, x.key = .string t ∧ x.val = nV v ∧ valS names t = .ok v) →
    Instr.findNow .string (.string s) l i = some none ∨ ∃ j v, Instr.findNow .string (.string s) l i = some (some (j, nV v)) ∧ valS names s = .ok v ∧ i ≤ j ∧ ∃ e, l[j - i]? = some e ∧ e.key = .string s := by
  intro l
  induction l with
  | nil => intro i _; exact Or.inl rfl
  | cons e r ih =>
    intro i h
    obtain ⟨t, v, h1, h2, h3⟩ := h e (by simp)
    unfold Instr.findNow
    rw [h1, h2]
    by_cases hs : s = t
    · subst hs
      have e1 : Instr.sameNow .string (.string s) (.string s) = some true := by
        have : (s == s) = true := (MapKept.bytes_beq s s).2 rfl
        simp [Instr.sameNow, this]
      rw [e1]
      exact Or.inr ⟨i, v, rfl, h3, Nat.le_refl _, e, by simp, h1⟩
    · have e1 : Instr.sameNow .string (.string s) (.string t) = some false := by
        have : (s == t) = false := by
          rw [Bool.eq_false_iff]
          intro hb
          exact hs ((MapKept.bytes_beq s t).1 hb)
        simp [Instr.sameNow, this]
      rw [e1]
      show Instr.findNow _ _ r (i + 1) = some none ∨ _
      rcases ih (i + 1) (fun x hx => h x (by simp [hx])) with q | ⟨j, v', q1, q2, q3, e', q4, q5⟩
      · exact Or.inl q
      · refine Or.inr ⟨j, v', q1, q2, by omega, e', ?_, q5⟩
        rw [show j - i = (j - (i + 1)) + 1 by omega, List.getElem?_cons_succ]
        exact q4
theorem run_kept {w : World} {b clock : Nat} {es : Array MapEntry} {names : List (Int × Num)} (hb : w.heap[b]? = some (.map es clock)) (hE : keE names es) (s : ByteArray) :
    ∃ v ok, (Instr.lookup 162 (.map (some b)) (.string s) true).run Tryz.prog w = .ok (.tuple #[nV v, .bool ok]) w ∧ ((ok = true ∧ valS names s = .ok v) ∨ (ok = false ∧ v = ⟨⟨0, 0⟩, ⟨0, 0⟩⟩)) := by
  have hc := MapKept.run_checkKey (P := Tryz.prog) (w := w) (k := .string s) Tryz.underlying9 (by simp [MapKept.IsKey]) es.isEmpty 9999
  rcases find_kept names s es.toList 0 hE with q | ⟨j, v, q1, q2, _⟩
  · have hf := MapKept.run_findKey (P := Tryz.prog) (w := w) Tryz.underlying9 q
    refine ⟨⟨⟨0, 0⟩, ⟨0, 0⟩⟩, false, ?_, Or.inr ⟨rfl, rfl⟩⟩
    simp [Instr.lookup, run_underlying Tryz.underlying162, MapKept.run_getObj_map hb, hc, hf, Result.andThen]
    rfl
  · have hf := MapKept.run_findKey (P := Tryz.prog) (w := w) Tryz.underlying9 q1
    refine ⟨v, true, ?_, Or.inl ⟨rfl, q2⟩⟩
    simp [Instr.lookup, run_underlying Tryz.underlying162, MapKept.run_getObj_map hb, hc, hf, Result.andThen]
/-- A table (block T), its map (block r). -/
structure Tb (T r : Nat) (names : List (Int × Num)) (w : World) : Prop where
  ht : w.heap[T]? = some (.cells #[.int .i32 0, .int .u32 0, .map (some r), .int .i64 64] 164 (0, 0))
  hr : ∃ es clock, w.heap[r]? = some (.map es clock) ∧ keE names es
abbrev tbC (r : Nat) (l : Int) : Array Value := #[.int .i32 l, .int .u32 0, .map (some r), .int .i64 64]
theorem tb_cells {w : World} {T r : Nat} {l : Int} (h : w.heap[T]? = some (.cells (tbC r l) 164 (0, 0))) : w.cell? ⟨T, 0, none⟩ = some (.int .i32 l) ∧ w.cell? ⟨T, 2, none⟩ = some (.map (some r)) ∧ w.cell? ⟨T, 3, none⟩ = some (.int .i64 64) ∧ w.frozen? ⟨T, 0, none⟩ = false := by
  refine ⟨?_, ?_, ?_, ?_⟩ <;> simp [World.cell?, World.frozen?, h]
theorem tb_set {w : World} {T r : Nat} {l : Int} (h : w.heap[T]? = some (.cells (tbC r l) 164 (0, 0))) (k : Int) : (w.setCell ⟨T, 0, none⟩ (.int .i32 k)).heap[T]? = some (.cells (tbC r k) 164 (0, 0)) := by
  simp [World.setCell, Array.getElem?_modify, h]

/-- All but some blocks lie as they lay. -/
structure Kp (S : Nat → Prop) (w w' : World) : Prop where
  os : w'.os = w.os
  tape : w'.tape = w.tape
  output : w'.output = w.output
  size : w.heap.size ≤ w'.heap.size
  block : ∀ k, k < w.heap.size → ¬ S k → w'.heap[k]? = w.heap[k]?
theorem Kp.refl (S : Nat → Prop) (w : World) : Kp S w w := ⟨rfl, rfl, rfl, Nat.le_refl _, fun _ _ _ => rfl⟩
theorem Kp.trans {S : Nat → Prop} {a b c : World} (h : Kp S a b) (k : Kp S b c) : Kp S a c :=
  ⟨k.os.trans h.os, k.tape.trans h.tape, k.output.trans h.output, Nat.le_trans h.size k.size, fun i hi hs => (k.block i (Nat.lt_of_lt_of_le hi h.size) hs).trans (h.block i hi hs)⟩
theorem Kp.of_below {S : Nat → Prop} {w w' : World} (h : Below w.heap.size w w') : Kp S w w' := ⟨h.os, h.tape, h.output, h.size, fun k hk _ => h.block k hk⟩
theorem Kp.below {S : Nat → Prop} {a w w' : World} (h : Kp S a w) (g : Below w.heap.size w w') : Kp S a w' := h.trans (Kp.of_below g)
theorem Kp.alloc {S : Nat → Prop} {a w : World} (h : Kp S a w) (o : Obj) : Kp S a (w.alloc o) := h.below (fr_below w o)
theorem Kp.drew {S : Nat → Prop} {a w : World} (h : Kp S a w) : Kp S a w.drew := h.below ((Below.refl _ w).drew)
theorem Kp.setCell {S : Nat → Prop} {a w : World} (h : Kp S a w) {p : Addr} (hp : S p.block ∨ a.heap.size ≤ p.block) (u : Value) : Kp S a (w.setCell p u) := by
  have g := (Below.refl 0 w).setCell (p := p) (Nat.zero_le _) u
  refine ⟨g.os.trans h.os, g.tape.trans h.tape, g.output.trans h.output, Nat.le_trans h.size g.size, fun k hk hs => ?_⟩
  have : k ≠ p.block := by
    intro e
    subst e
    rcases hp with hp | hp
    · exact hs hp
    · omega
  rw [Below.heap_setCell _ _ _ _ this]
  exact h.block k hk hs
theorem Kp.to_below {S : Nat → Prop} {w w' : World} (h : Kp S w w') (hs : ∀ k, S k → w'.heap[k]? = w.heap[k]?) : Below w.heap.size w w' :=
  ⟨h.os, h.tape, h.output, h.size, fun k hk => by
    by_cases hk2 : S k
    · exact hs k hk2
    · exact h.block k hk hk2⟩
theorem Kp.mono {S S' : Nat → Prop} {w w' : World} (h : Kp S w w') (hs : ∀ k, S k → S' k) : Kp S' w w' := ⟨h.os, h.tape, h.output, h.size, fun k hk hk' => h.block k hk (fun e => hk' (hs k e))⟩

/-- Get's world. -/
structure GW (w : World) (T r : Nat) (es : Array MapEntry) (clock : Nat) (l : Int) (z : Array Value) (W : World) : Prop where
  ht : W.heap[T]? = some (.cells (tbC r l) 164 (0, 0))
  hm : W.heap[r]? = some (.map es clock)
  hz : W.heap[w.heap.size]? = some (.cells z 82 (0, 0))
  hT : T < w.heap.size
  hk : Kp (· = T) w W
theorem GW.below {w : World} {T r : Nat} {es : Array MapEntry} {clock : Nat} {l : Int} {z : Array Value} {W W' : World} (h : GW w T r es clock l z W) (g : Below W.heap.size W W') : GW w T r es clock l z W' :=
  ⟨(g.block _ (Array.getElem?_eq_some_iff.1 h.ht).1).trans h.ht, (g.block _ (Array.getElem?_eq_some_iff.1 h.hm).1).trans h.hm, (g.block _ (Array.getElem?_eq_some_iff.1 h.hz).1).trans h.hz, h.hT, h.hk.below g⟩
theorem GW.lock {w : World} {T r : Nat} {es : Array MapEntry} {clock : Nat} {l : Int} {z : Array Value} {W : World} (h : GW w T r es clock l z W) (k : Int) : GW w T r es clock k z (W.setCell ⟨T, 0, none⟩ (.int .i32 k)) := by
  have n1 : r ≠ T := fun e => by
    have := h.hm
    rw [e, h.ht] at this
    cases this
  refine ⟨tb_set h.ht k, ?_, ?_, h.hT, h.hk.setCell (Or.inl rfl) _⟩
  · rw [Below.heap_setCell _ _ _ _ n1]; exact h.hm
  · rw [Below.heap_setCell _ _ _ _ (by have := h.hT; simp <;> omega)]; exact h.hz
theorem GW.setz {w : World} {T r : Nat} {es : Array MapEntry} {clock : Nat} {l : Int} {a b c d : Value} {W : World} (h : GW w T r es clock l #[a, b, c, d] W) (a' b' c' d' : Value) : GW w T r es clock l #[a', b', c', d'] ((((W.setCell ⟨w.heap.size, 0, none⟩ a').setCell ⟨w.heap.size, 1, none⟩ b').setCell ⟨w.heap.size, 2, none⟩ c').setCell ⟨w.heap.size, 3, none⟩ d') := by
  have n1 : r ≠ w.heap.size := fun e => by
    have := h.hm
    rw [e, h.hz] at this
    cases this
  have hT := h.hT
  have n2 : T ≠ w.heap.size := by omega
  refine ⟨?_, ?_, four_set h.hz _ _ _ _, hT, (((h.hk.setCell (p := ⟨w.heap.size, 0, none⟩) (Or.inr (Nat.le_refl _)) _).setCell (p := ⟨w.heap.size, 1, none⟩) (Or.inr (Nat.le_refl _)) _).setCell (p := ⟨w.heap.size, 2, none⟩) (Or.inr (Nat.le_refl _)) _).setCell (p := ⟨w.heap.size, 3, none⟩) (Or.inr (Nat.le_refl _)) _⟩
  · rw [Below.heap_setCell _ _ _ _ n2, Below.heap_setCell _ _ _ _ n2, Below.heap_setCell _ _ _ _ n2, Below.heap_setCell _ _ _ _ n2]; exact h.ht
  · rw [Below.heap_setCell _ _ _ _ n1, Below.heap_setCell _ _ _ _ n1, Below.heap_setCell _ _ _ _ n1, Below.heap_setCell _ _ _ _ n1]; exact h.hm

set_option maxHeartbeats 2000000 in
set_option maxRecDepth 100000 in
theorem get_any (T r : Nat) (names : List (Int × Num)) (s : ByteArray) (w : World) (h : Tb T r names w) :
    Calls Tryz.prog 55 #[.pointer (some ⟨T, 0, none⟩), .string s] w fun e w' => ∃ v ok, e = .returned (.tuple #[nV v, .bool ok]) ∧ ((ok = true ∧ valS names s = .ok v) ∨ (ok = false ∧ v = ⟨⟨0, 0⟩, ⟨0, 0⟩⟩)) ∧ Below w.heap.size w w' := by
  obtain ⟨es, clock, hm, hE⟩ := h.hr
  have h0 : GW w T r es clock 0 #[.int .i64 0, .int .i64 0, .int .i64 0, .int .i64 0] (w.alloc (.cells #[.int .i64 0, .int .i64 0, .int .i64 0, .int .i64 0] 82)) := by
    refine ⟨?_, ?_, heap_alloc_new w _, (Array.getElem?_eq_some_iff.1 h.ht).1, (Kp.refl _ w).alloc _⟩
    · rw [Below.heap_alloc _ _ _ (Array.getElem?_eq_some_iff.1 h.ht).1]; exact h.ht
    · rw [Below.heap_alloc _ _ _ (Array.getElem?_eq_some_iff.1 hm).1]; exact hm
  have HT := hidMk h.ht
  have HE := hidMk hE
  clear hm hE h
  go_enter_defers Tryz.func55, Tryz.ntmps55
  go_wp2_with fail
  generalize w.alloc _ = W at *
  obtain ⟨t0, t2, t3, tf⟩ := tb_cells h0.ht
  refine (lock_free muLib ⟨T, 0, none⟩ W t0 tf).mono ?_
  rintro e w1 ⟨rfl, hw1⟩
  have h1 := h0.lock 1
  rw [← hw1] at h1
  clear hw1 h0 t0 t2 t3 tf
  obtain ⟨v, ok, hlk, hcase⟩ := run_kept h1.hm HE.out s
  obtain ⟨t0, t2, t3, tf⟩ := tb_cells h1.ht
  have H1 := hidMk h1
  have HC := hidMk hcase
  clear h1 hcase
  unfold nV at hlk
  go_upto_region 4 with fail
  have h2 := H1.out.below (fr_below w1 (.cells #[.int .i64 v.re.n, .int .i64 v.re.d, .int .i64 v.im.n, .int .i64 v.im.d] 82))
  have hx2 := heap_alloc_new w1 (.cells #[.int .i64 v.re.n, .int .i64 v.re.d, .int .i64 v.im.n, .int .i64 v.im.d] 82)
  clear H1 hlk t0 t2 t3 tf
  generalize w1.alloc _ = W2 at *
  generalize w1.heap.size = bx at *
  obtain ⟨x0, x1, x2, x3⟩ := four_cells hx2
  obtain ⟨z0, z1, z2, z3⟩ := four_cells h2.hz
  obtain ⟨f0, f1, f2, f3⟩ := four_frozen h2.hz
  have H2 := hidMk h2
  clear h2 hx2
  go_wp2_with fail
  have h3 := H2.out.setz (.int .i64 v.re.n) (.int .i64 v.re.d) (.int .i64 v.im.n) (.int .i64 v.im.d)
  generalize (((W2.setCell _ _).setCell _ _).setCell _ _).setCell _ _ = W3 at *
  clear z0 z1 z2 z3 f0 f1 f2 f3 x0 x1 x2 x3 H2
  obtain ⟨t0, t2, t3, tf⟩ := tb_cells h3.ht
  refine leaves_cons (f := 39) (args := #[.pointer (some ⟨T, 0, none⟩)]) (by simp) (by simp [go_sem]) ?_
  refine (unlock_deferred muLib ⟨T, 0, none⟩ .returning _ t0 tf).mono ?_
  rintro e u' w'' ⟨rfl, rfl, hw⟩
  have h4 := h3.lock 0
  rw [← hw] at h4
  clear h3 hw t0 t2 t3 tf
  obtain ⟨z0, z1, z2, z3⟩ := four_cells h4.hz
  refine ⟨.tuple #[nV v, .bool ok], by simp [results, Tryz.results55, go_sem, z0, z1, z2, z3, nV], v, ok, rfl, HC.out, h4.hk.to_below ?_⟩
  intro k hk
  rw [hk, h4.ht, HT.out]

/-! ### A value is kept -/
theorem len_kept {w : World} {r clock : Nat} {es : Array MapEntry} (hb : w.heap[r]? = some (.map es clock)) (ty : TypeId) : (Builtin.len_ #[162] ty #[.map (some r)]).run Tryz.prog w = .ok (.int .i64 (es.size : Nat)) w := by
  simp [Builtin.len_, run_underlying Tryz.underlying162, MapKept.run_getObj_map hb, Result.andThen, goInt]
theorem put_world {w : World} {r clock : Nat} {es : Array MapEntry} (hb : w.heap[r]? = some (.map es clock)) (o : Obj) : (setObj r o).run Tryz.prog w = .ok () (w.putObj r o) := MapKept.run_setObj_map o hb
theorem clear_kept {w : World} {r clock : Nat} {es : Array MapEntry} (hb : w.heap[r]? = some (.map es clock)) (ty : TypeId) : (Builtin.clear_ #[162] ty #[.map (some r)]).run Tryz.prog w = .ok (.tuple #[]) (w.putObj r (.map #[] clock)) := by
  simp [Builtin.clear_, run_underlying Tryz.underlying162, MapKept.run_getObj_map hb, put_world hb, Result.andThen]
theorem upd_kept {w : World} {r clock : Nat} {es : Array MapEntry} {names : List (Int × Num)} (hb : w.heap[r]? = some (.map es clock)) (hE : keE names es) (s : ByteArray) (v : Num) (hv : valS names s = .ok v) :
    ∃ es' clock', (Instr.mapUpdate 162 (.map (some r)) (.string s) (nV v)).run Tryz.prog w = .ok () (w.putObj r (.map es' clock')) ∧ keE names es' := by
  have hc := MapKept.run_checkKey (P := Tryz.prog) (w := w) (k := .string s) Tryz.underlying9 (by simp [MapKept.IsKey]) false 9999
  rcases find_kept names s es.toList 0 hE with q | ⟨j, v', q1, q2, _, e, q3, q4⟩
  · have hf := MapKept.run_findKey (P := Tryz.prog) (w := w) Tryz.underlying9 q
    refine ⟨es.push { key := .string s, val := nV v, born := clock }, clock + 1, ?_, ?_⟩
    · simp [Instr.mapUpdate, run_underlying Tryz.underlying162, MapKept.run_getObj_map hb, hc, hf, put_world hb, Result.andThen]
    · intro x hx
      simp at hx
      rcases hx with hx | rfl
      · exact hE x (by simpa using hx)
      · exact ⟨s, v, rfl, rfl, hv⟩
  · have hf := MapKept.run_findKey (P := Tryz.prog) (w := w) Tryz.underlying9 q1
    have he : es[j]? = some e := by simpa using q3
    have hks := MapKept.run_keyThatStays (P := Tryz.prog) (w := w) (d := .string) (k := .string s) (by simp [MapKept.IsKey])
    refine ⟨es.modify j fun e => { e with key := .string s, val := nV v }, clock, ?_, ?_⟩
    · simp [Instr.mapUpdate, run_underlying Tryz.underlying162, MapKept.run_getObj_map hb, hc, hf, he, q4, hks, put_world hb, Result.andThen]
    · intro x hx
      obtain ⟨k, hk⟩ := List.mem_iff_getElem?.1 hx
      rw [Array.getElem?_toList, Array.getElem?_modify] at hk
      by_cases hjk : j = k
      · subst hjk
        rw [if_pos rfl, he] at hk
        simp at hk
        subst hk
        exact ⟨s, v, rfl, rfl, hv⟩
      · rw [if_neg hjk] at hk
        exact hE x (by simpa using Array.mem_of_getElem? hk)
end Go.Proofs.YtodabmkcihafhaaGreatDoor

/- The program's table: a value is kept; the book's page. -/
namespace Go.Proofs.YtodabmkcihafhaaGreatDoor
open Go.RowKit Go.MuLone
set_option linter.unusedVariables false

abbrev numC (v : Num) : Array Value := #[.int .i64 v.re.n, .int .i64 v.re.d, .int .i64 v.im.n, .int .i64 v.im.d]
/-- Keep's world. -/
structure KW (w : World) (T r : Nat) (names : List (Int × Num)) (l : Int) (v : Num) (W : World) : Prop where
  ht : W.heap[T]? = some (.cells (tbC r l) 164 (0, 0))
  hm : ∃ es clock, W.heap[r]? = some (.map es clock) ∧ keE names es
  hx : W.heap[w.heap.size]? = some (.cells (numC v) 82 (0, 0))
  hT : T < w.heap.size
  hr : r < w.heap.size
  hk : Kp (fun k => k = T ∨ k = r) w W
theorem KW.below {w : World} {T r : Nat} {names : List (Int × Num)} {l : Int} {v : Num} {W W' : World} (h : KW w T r names l v W) (g : Below W.heap.size W W') : KW w T r names l v W' := by
  obtain ⟨es, clock, h1, h2⟩ := h.hm
  exact ⟨(g.block _ (Array.getElem?_eq_some_iff.1 h.ht).1).trans h.ht, ⟨es, clock, (g.block _ (Array.getElem?_eq_some_iff.1 h1).1).trans h1, h2⟩, (g.block _ (Array.getElem?_eq_some_iff.1 h.hx).1).trans h.hx, h.hT, h.hr, h.hk.below g⟩
theorem KW.drew {w : World} {T r : Nat} {names : List (Int × Num)} {l : Int} {v : Num} {W : World} (h : KW w T r names l v W) : KW w T r names l v W.drew := h.below ((Below.refl _ W).drew)
theorem KW.lock {w : World} {T r : Nat} {names : List (Int × Num)} {l : Int} {v : Num} {W : World} (h : KW w T r names l v W) (k : Int) : KW w T r names k v (W.setCell ⟨T, 0, none⟩ (.int .i32 k)) := by
  obtain ⟨es, clock, h1, h2⟩ := h.hm
  have n1 : r ≠ T := fun e => by
    rw [e, h.ht] at h1
    cases h1
  have hT := h.hT
  refine ⟨tb_set h.ht k, ⟨es, clock, ?_, h2⟩, ?_, h.hT, h.hr, h.hk.setCell (Or.inl (Or.inl rfl)) _⟩
  · rw [Below.heap_setCell _ _ _ _ n1]; exact h1
  · rw [Below.heap_setCell _ _ _ _ (by simp <;> omega)]; exact h.hx
theorem KW.put {w : World} {T r : Nat} {names : List (Int × Num)} {l : Int} {v : Num} {W : World} (h : KW w T r names l v W) {es : Array MapEntry} (clock : Nat) (hE : keE names es) : KW w T r names l v (W.putObj r (.map es clock)) := by
  obtain ⟨es0, clock0, h1, h2⟩ := h.hm
  have n1 : T ≠ r := fun e => by
    rw [← e, h.ht] at h1
    cases h1
  have hr := h.hr
  refine ⟨?_, ⟨es, clock, World.putObj_heap_same (Array.getElem?_eq_some_iff.1 h1).1, hE⟩, ?_, h.hT, h.hr, ?_⟩
  · rw [World.putObj_heap_other n1]; exact h.ht
  · rw [World.putObj_heap_other (by omega)]; exact h.hx
  · refine ⟨h.hk.os, h.hk.tape, h.hk.output, by have := h.hk.size; simp [World.putObj]; exact this, fun k hk hs => ?_⟩
    rw [World.putObj_heap_other (fun e => hs (Or.inr e))]
    exact h.hk.block k hk hs
theorem Tb.of_below {T r : Nat} {names : List (Int × Num)} {w w' : World} (h : Tb T r names w) (g : Below w.heap.size w w') : Tb T r names w' := by
  obtain ⟨es, clock, h1, h2⟩ := h.hr
  exact ⟨(g.block _ (Array.getElem?_eq_some_iff.1 h.ht).1).trans h.ht, es, clock, (g.block _ (Array.getElem?_eq_some_iff.1 h1).1).trans h1, h2⟩

set_option maxHeartbeats 2000000 in
set_option maxRecDepth 100000 in
theorem keep_any (T r : Nat) (names : List (Int × Num)) (s : ByteArray) (v : Num) (w : World) (h : Tb T r names w) (hv : valS names s = .ok v) :
    Calls Tryz.prog 57 #[.pointer (some ⟨T, 0, none⟩), .string s, nV v] w fun e w' => e = .returned (.tuple #[]) ∧ Tb T r names w' ∧ Kp (· = r) w w' := by
  have h0 : KW w T r names 0 v (w.alloc (.cells (numC v) 82)) := by
    obtain ⟨es, clock, h1, h2⟩ := h.hr
    refine ⟨?_, ⟨es, clock, ?_, h2⟩, heap_alloc_new w _, (Array.getElem?_eq_some_iff.1 h.ht).1, (Array.getElem?_eq_some_iff.1 h1).1, (Kp.refl _ w).alloc _⟩
    · rw [Below.heap_alloc _ _ _ (Array.getElem?_eq_some_iff.1 h.ht).1]; exact h.ht
    · rw [Below.heap_alloc _ _ _ (Array.getElem?_eq_some_iff.1 h1).1]; exact h1
  have HT := hidMk h.ht
  have HV := hidMk hv
  clear h hv
  unfold nV
  go_enter_defers Tryz.func57, Tryz.ntmps57
  go_wp2_with fail
  generalize w.alloc _ = W at *
  obtain ⟨t0, t2, t3, tf⟩ := tb_cells h0.ht
  refine (lock_free muLib ⟨T, 0, none⟩ W t0 tf).mono ?_
  rintro e w1 ⟨rfl, hw1⟩
  have h1 := h0.lock 1
  rw [← hw1] at h1
  clear hw1 h0 t0 t2 t3 tf
  obtain ⟨t0, t2, t3, tf⟩ := tb_cells h1.ht
  obtain ⟨t0', t2', t3', tf'⟩ := tb_cells h1.drew.ht
  obtain ⟨es, clock, hm, hE⟩ := h1.hm
  have hln := len_kept (w := w1) hm 3
  have hln' := len_kept (w := w1.drew) hm 3
  have H1 := hidMk h1
  have HM := hidMk hm
  have HE := hidMk hE
  clear h1 hm hE
  go_upto_region 3 with fail
  go_region
  have hcl := clear_kept (w := w1.drew) HM.out 0
  have H2a : Hid (KW w T r names 1 v w1.drew) := H1.out.drew
  have H2b : Hid (KW w T r names 1 v (w1.drew.putObj r (.map #[] clock))) := H1.out.drew.put clock (fun x hx => by simp at hx)
  generalize w1.drew.putObj r (.map #[] clock) = wb at *
  clear hln hln' H1 HM HE t0 t2 t3 tf
  generalize w1.drew = wa at *
  by_cases h64 : 64 ≤ (es.size : Int)
  · go_upto_region 5 with fail
    have H3 := H2b
    clear H2a H2b hcl t0' t2' t3' tf'
    obtain ⟨t0, t2, t3, tf⟩ := tb_cells H3.out.ht
    obtain ⟨t0', t2', t3', tf'⟩ := tb_cells H3.out.drew.ht
    obtain ⟨x0, x1, x2, x3⟩ := four_cells H3.out.drew.hx
    obtain ⟨y0, y1, y2, y3⟩ := four_cells H3.out.hx
    obtain ⟨es1, clock1, hm1, hE1⟩ := H3.out.drew.hm
    obtain ⟨es2, clock2, hup, hE2⟩ := upd_kept hm1 hE1 s v HV.out
    have H4 : Hid (KW w T r names 1 v (wb.drew.putObj r (.map es2 clock2))) := H3.out.drew.put clock2 hE2
    unfold nV at hup
    generalize wb.drew.putObj r (.map es2 clock2) = W4 at *
    clear hm1 hE1 hE2
    go_region
    obtain ⟨t0, t2, t3, tf⟩ := tb_cells H4.out.ht
    clear t0' t2' t3' tf' x0 x1 x2 x3 y0 y1 y2 y3 hup
    go_wp2_with fail
    refine leaves_cons (f := 39) (args := #[.pointer (some ⟨T, 0, none⟩)]) (by simp) (by simp [go_sem]) ?_
    refine (unlock_deferred muLib ⟨T, 0, none⟩ .returning _ t0 tf).mono ?_
    rintro e u' w'' ⟨rfl, rfl, hw⟩
    have h5 := H4.out.lock 0
    rw [← hw] at h5
    refine ⟨_, results_none rfl _ _ _, rfl, ⟨h5.ht, h5.hm⟩, h5.hk.os, h5.hk.tape, h5.hk.output, h5.hk.size, fun k hk hs => ?_⟩
    by_cases hkT : k = T
    · rw [hkT, h5.ht, HT.out]
    · exact h5.hk.block k hk (fun e => e.elim hkT hs)
  · go_upto_region 5 with fail
    have H3 := H2a
    clear H2a H2b hcl t0' t2' t3' tf'
    obtain ⟨t0, t2, t3, tf⟩ := tb_cells H3.out.ht
    obtain ⟨t0', t2', t3', tf'⟩ := tb_cells H3.out.drew.ht
    obtain ⟨x0, x1, x2, x3⟩ := four_cells H3.out.drew.hx
    obtain ⟨y0, y1, y2, y3⟩ := four_cells H3.out.hx
    obtain ⟨es1, clock1, hm1, hE1⟩ := H3.out.drew.hm
    obtain ⟨es2, clock2, hup, hE2⟩ := upd_kept hm1 hE1 s v HV.out
    have H4 : Hid (KW w T r names 1 v (wa.drew.putObj r (.map es2 clock2))) := H3.out.drew.put clock2 hE2
    unfold nV at hup
    generalize wa.drew.putObj r (.map es2 clock2) = W4 at *
    clear hm1 hE1 hE2
    go_region
    obtain ⟨t0, t2, t3, tf⟩ := tb_cells H4.out.ht
    clear t0' t2' t3' tf' x0 x1 x2 x3 y0 y1 y2 y3 hup
    go_wp2_with fail
    refine leaves_cons (f := 39) (args := #[.pointer (some ⟨T, 0, none⟩)]) (by simp) (by simp [go_sem]) ?_
    refine (unlock_deferred muLib ⟨T, 0, none⟩ .returning _ t0 tf).mono ?_
    rintro e u' w'' ⟨rfl, rfl, hw⟩
    have h5 := H4.out.lock 0
    rw [← hw] at h5
    refine ⟨_, results_none rfl _ _ _, rfl, ⟨h5.ht, h5.hm⟩, h5.hk.os, h5.hk.tape, h5.hk.output, h5.hk.size, fun k hk hs => ?_⟩
    by_cases hkT : k = T
    · rw [hkT, h5.ht, HT.out]
    · exact h5.hk.block k hk (fun e => e.elim hkT hs)
end Go.Proofs.YtodabmkcihafhaaGreatDoor

/- The program's book: its open page, its numbers. -/
namespace Go.Proofs.YtodabmkcihafhaaGreatDoor
open Go.RowKit Go.MuLone
set_option linter.unusedVariables false

/-- A page whole: its names (block m), its table (block T, the table's map r). -/
structure Pw (N : Nat) (aZ aB : Addr) (P m T r : Nat) (names : List (Int × Num)) (w : World) : Prop where
  pg : Pg N aZ aB P m names w
  hP : w.heap[P]? = some (.cells #[.map (some m), .pointer (some ⟨T, 0, none⟩)] 118 (0, 0))
  tb : Tb T r names w
  mr : m ≠ r
  rN : N ≤ r
  nm : ∀ q ∈ names, q.2.Ok
theorem Pw.below {N : Nat} {aZ aB : Addr} {P m T r : Nat} {names : List (Int × Num)} {w w' : World} (h : Pw N aZ aB P m T r names w) (g : Below w.heap.size w w') : Pw N aZ aB P m T r names w' :=
  ⟨h.pg.below g, (g.block _ (Array.getElem?_eq_some_iff.1 h.hP).1).trans h.hP, h.tb.of_below g, h.mr, h.rN, h.nm⟩
theorem Pw.kept {N : Nat} {aZ aB : Addr} {P m T r : Nat} {names : List (Int × Num)} {w w' : World} (h : Pw N aZ aB P m T r names w) (g : Kp (· = r) w w') (ht : Tb T r names w') : Pw N aZ aB P m T r names w' := by
  obtain ⟨es, clock, h1, h2⟩ := h.pg.hm
  obtain ⟨es', clock', h3, h4⟩ := h.tb.hr
  have nP : P ≠ r := fun e => by
    have := h.hP
    rw [e, h3] at this
    cases this
  have hP' := (g.block P (Array.getElem?_eq_some_iff.1 h.hP).1 nP).trans h.hP
  refine ⟨⟨h.pg.hS.kept fun j hj => g.block j (by have := h.pg.hN; omega) (by have := h.rN; omega), Nat.le_trans h.pg.hN g.size, ?_, es, clock, (g.block m (Array.getElem?_eq_some_iff.1 h1).1 h.mr).trans h1, h2⟩, hP', ht, h.mr, h.rN, h.nm⟩
  simp [World.cell?, hP']
/-- A book (block K). -/
structure Bk (N : Nat) (aZ aB : Addr) (K P m T r : Nat) (names : List (Int × Num)) (w : World) : Prop where
  hK : w.heap[K]? = some (.cells #[.int .i32 0, .int .u32 0, .pointer (some ⟨P, 0, none⟩)] 73 (0, 0))
  pw : Pw N aZ aB P m T r names w
theorem Bk.below {N : Nat} {aZ aB : Addr} {K P m T r : Nat} {names : List (Int × Num)} {w w' : World} (h : Bk N aZ aB K P m T r names w) (g : Below w.heap.size w w') : Bk N aZ aB K P m T r names w' :=
  ⟨(g.block _ (Array.getElem?_eq_some_iff.1 h.hK).1).trans h.hK, h.pw.below g⟩
theorem Bk.kept {N : Nat} {aZ aB : Addr} {K P m T r : Nat} {names : List (Int × Num)} {w w' : World} (h : Bk N aZ aB K P m T r names w) (g : Kp (· = r) w w') (ht : Tb T r names w') : Bk N aZ aB K P m T r names w' := by
  obtain ⟨es', clock', h3, h4⟩ := h.pw.tb.hr
  have nK : K ≠ r := fun e => by
    have := h.hK
    rw [e, h3] at this
    cases this
  exact ⟨(g.block K (Array.getElem?_eq_some_iff.1 h.hK).1 nK).trans h.hK, h.pw.kept g ht⟩
abbrev bkC (P : Nat) (l : Int) : Array Value := #[.int .i32 l, .int .u32 0, .pointer (some ⟨P, 0, none⟩)]
theorem bk_cells {w : World} {K P : Nat} {l : Int} (h : w.heap[K]? = some (.cells (bkC P l) 73 (0, 0))) : w.cell? ⟨K, 0, none⟩ = some (.int .i32 l) ∧ w.cell? ⟨K, 2, none⟩ = some (.pointer (some ⟨P, 0, none⟩)) ∧ w.frozen? ⟨K, 0, none⟩ = false ∧ w.frozen? ⟨K, 2, none⟩ = false := by
  refine ⟨?_, ?_, ?_, ?_⟩ <;> simp [World.cell?, World.frozen?, h]
theorem bk_set {w : World} {K P : Nat} {l : Int} (h : w.heap[K]? = some (.cells (bkC P l) 73 (0, 0))) (k : Int) : (w.setCell ⟨K, 0, none⟩ (.int .i32 k)).heap[K]? = some (.cells (bkC P k) 73 (0, 0)) := by
  simp [World.setCell, Array.getElem?_modify, h]

set_option maxHeartbeats 1000000 in
theorem current_any (K P : Nat) (w : World) (h : w.heap[K]? = some (.cells (bkC P 0) 73 (0, 0))) :
    Calls Tryz.prog 34 #[.pointer (some ⟨K, 0, none⟩)] w fun e w' => e = .returned (.pointer (some ⟨P, 0, none⟩)) ∧ Below w.heap.size w w' := by
  obtain ⟨t0, t2, tf, _⟩ := bk_cells h
  have h1 := bk_set h 1
  have k1 := (Kp.refl (· = K) w).setCell (p := ⟨K, 0, none⟩) (Or.inl rfl) (.int .i32 1)
  obtain ⟨u0, u2, uf, _⟩ := bk_cells h1
  have h2 := bk_set h1 0
  have k2 := k1.setCell (p := ⟨K, 0, none⟩) (Or.inl rfl) (.int .i32 0)
  go_enter_defers Tryz.func34, Tryz.ntmps34
  go_wp2_with (go_at_call 38; refine (lock_free muLib ⟨K, 0, none⟩ _ t0 tf).mono ?_; rintro e w' ⟨rfl, rfl⟩)
  refine leaves_cons (f := 39) (args := #[.pointer (some ⟨K, 0, none⟩)]) (by simp) (by simp [go_sem]) ?_
  refine (unlock_deferred muLib ⟨K, 0, none⟩ .returning _ u0 uf).mono ?_
  rintro e u' w'' ⟨rfl, rfl, rfl⟩
  refine ⟨_, results_tmp rfl _ _ _, rfl, k2.to_below (fun k hk => ?_)⟩
  rw [hk, h2, h]

/-! ### What is worked, or was -/
theorem valS_read (names : List (Int × Num)) (s : ByteArray) : (refE s = 0 ∧ s.size ≤ 120 ∧ good s = true ∧ valS names s = valT (envOf names) (treeT s)) ∨ (refE s ≠ 0 ∧ ∃ p : Nat, refP s = p ∧ valS names s = .err (refE s) p) := by
  unfold valS refE refP
  by_cases h : 120 < s.size
  · rw [if_pos h, if_pos h, if_pos h]
    exact Or.inr ⟨by decide, 0, rfl, rfl⟩
  · rw [if_neg h, if_neg h, if_neg h]
    by_cases hg : good s = true
    · rw [if_pos hg, if_pos hg]
      exact Or.inl ⟨rfl, by omega, hg, rfl⟩
    · rw [if_neg hg, if_neg hg, if_neg hg]
      exact Or.inr ⟨by decide, _, rfl, rfl⟩
end Go.Proofs.YtodabmkcihafhaaGreatDoor

/- The program's parser: its state; ahead, joined, take. -/
namespace Go.Proofs.YtodabmkcihafhaaGreatDoor
open Go.RowKit
set_option linter.unusedVariables false

/-- The list of signs ends with the one that stands for none. -/
def EndOk (ts : List Tok) : Prop := ∃ pre t, ts = pre ++ [t] ∧ t.c = -1
theorem EndOk.ne {ts : List Tok} (h : EndOk ts) : 1 ≤ ts.length := by
  obtain ⟨pre, t, rfl, _⟩ := h
  simp
theorem EndOk.tail {ts : List Tok} (h : EndOk ts) (hh : hd ts ≠ -1) : EndOk ts.tail ∧ 2 ≤ ts.length := by
  obtain ⟨pre, t, rfl, ht⟩ := h
  cases pre with
  | nil => exact absurd ht (by simpa [hd] using hh)
  | cons a r => exact ⟨⟨r, t, rfl, ht⟩, by simp⟩
theorem hd_of_jn {ts : List Tok} (h : jn ts ≠ -1) : hd ts = jn ts := by
  cases ts with
  | nil => exact absurd rfl h
  | cons t r =>
    unfold jn hd at *
    simp only at *
    split at h
    · exact absurd rfl h
    · rename_i hh; rw [if_neg hh]

def RangeOk (ts : List Tok) : Prop := ∀ t ∈ ts, -1 ≤ t.c ∧ t.c ≤ 1114111
theorem RangeOk.tail {ts : List Tok} (h : RangeOk ts) : RangeOk ts.tail := fun t ht => h t (List.mem_of_mem_tail ht)
theorem RangeOk.hd {ts : List Tok} (h : RangeOk ts) : -1 ≤ hd ts ∧ hd ts ≤ 1114111 := by
  cases ts with
  | nil => exact ⟨by decide, by decide⟩
  | cons t r => exact h t (by simp)
theorem RangeOk.jn {ts : List Tok} (h : RangeOk ts) : -1 ≤ jn ts ∧ jn ts ≤ 1114111 := by
  cases ts with
  | nil => exact ⟨by decide, by decide⟩
  | cons t r =>
    have := h t (by simp)
    unfold Go.Proofs.YtodabmkcihafhaaGreatDoor.jn
    simp only
    split <;> omega

def TkRow (w : World) (g o : Nat) (ts : List Tok) : Prop := ∀ j t, ts[j]? = some t → w.cell? ⟨g, o + 3 * j, none⟩ = some (.int .i32 t.c) ∧ w.cell? ⟨g, o + 3 * j + 1, none⟩ = some (.int .i64 t.p) ∧ w.cell? ⟨g, o + 3 * j + 2, none⟩ = some (.bool t.a)

/-- The parser, in block p; the signs that are left, in a block below. -/
def PSt (p : Nat) (ts : List Tok) (w : World) : Prop :=
  ∃ g o cap, w.heap[p]? = some (.cells #[.slice (some ⟨g, o, none⟩) ts.length cap] 169 (0, 0)) ∧ g < p ∧ ts.length ≤ cap ∧ cap ≤ maxLen ∧ TkRow w g o ts ∧ EndOk ts ∧ RangeOk ts

theorem PSt.lt {p : Nat} {ts : List Tok} {w : World} (h : PSt p ts w) : p < w.heap.size := by
  obtain ⟨g, o, cap, hb, _⟩ := h
  exact (Array.getElem?_eq_some_iff.1 hb).1
/-- What lies below and the parser's own block unturned: the parser as it was. -/
theorem PSt.ext {p : Nat} {ts : List Tok} {w w' : World} (h : PSt p ts w) (hb : Below (p + 1) w w') : PSt p ts w' := by
  obtain ⟨g, o, cap, h1, h2, h3, h4, h5, h6, h7⟩ := h
  refine ⟨g, o, cap, by rw [hb.block p (by omega)]; exact h1, h2, h3, h4, ?_, h6, h7⟩
  intro j t ht
  obtain ⟨a, b, c⟩ := h5 j t ht
  exact ⟨by rw [hb.cell (by simp; omega)]; exact a, by rw [hb.cell (by simp; omega)]; exact b, by rw [hb.cell (by simp; omega)]; exact c⟩
theorem PSt.above {p : Nat} {ts : List Tok} {w w' : World} (h : PSt p ts w) (hb : Below w.heap.size w w') : PSt p ts w' := h.ext (hb.mono h.lt)
theorem PSt.cells {p : Nat} {ts : List Tok} {w : World} (h : PSt p ts w) : ∃ g o cap pl ap, w.cell? ⟨p, 0, none⟩ = some (.slice (some ⟨g, o, none⟩) ts.length cap) ∧ w.frozen? ⟨p, 0, none⟩ = false ∧ g < p ∧ 1 ≤ ts.length ∧ ts.length ≤ cap ∧ cap ≤ maxLen ∧
    w.cell? ⟨g, o, none⟩ = some (.int .i32 (hd ts)) ∧ w.cell? ⟨g, o + 1, none⟩ = some (.int .i64 ((pl : Nat) : Int)) ∧ w.cell? ⟨g, o + 2, none⟩ = some (.bool ap) ∧ pl = hp ts ∧ jn ts = (if ap then -1 else hd ts) := by
  obtain ⟨g, o, cap, h1, h2, h3, h4, h5, h6, h7⟩ := h
  have hne := h6.ne
  cases ts with
  | nil => simp at hne
  | cons t r =>
    obtain ⟨a, b, c⟩ := h5 0 t rfl
    exact ⟨g, o, cap, t.p, t.a, by simp [World.cell?, h1], by simp [World.frozen?, h1], h2, hne, h3, h4, a, b, c, rfl, rfl⟩
theorem PSt.endOk {p : Nat} {ts : List Tok} {w : World} (h : PSt p ts w) : EndOk ts ∧ RangeOk ts := by
  obtain ⟨g, o, cap, h1, h2, h3, h4, h5, h6, h7⟩ := h
  exact ⟨h6, h7⟩

theorem fldS0 (x y : Value) (w : World) : (Instr.field 174 (.agg #[x, y]) 0).run Tryz.prog w = .ok x w := by kernel_rfl
theorem below_set {p : Nat} {w0 w : World} (h : Below p w0 w) (v : Value) : Below p w0 (w.setCell ⟨p, 0, none⟩ v) := h.setCell (p := ⟨p, 0, none⟩) (Nat.le_refl p) v

set_option maxHeartbeats 1000000 in
theorem ahead_any (p : Nat) (ts : List Tok) (w : World) (h : PSt p ts w) :
    Calls Tryz.prog 78 #[.pointer (some ⟨p, 0, none⟩)] w fun e w' => e = .returned (.int .i32 (hd ts)) ∧ w' = w := by
  obtain ⟨g, o, cap, pl, ap, c0, f0, hg, hne, hc, hm, d0, d1, d2, _, _⟩ := h.cells
  generalize hd ts = c at *
  generalize ts.length = n at *
  go_enter Tryz.func78, Tryz.ntmps78
  go_wp2_with fail
  go_ret
  exact ⟨rfl, rfl⟩
set_option maxHeartbeats 1000000 in
theorem joined_any (p : Nat) (ts : List Tok) (w : World) (h : PSt p ts w) :
    Calls Tryz.prog 175 #[.pointer (some ⟨p, 0, none⟩)] w fun e w' => e = .returned (.int .i32 (jn ts)) ∧ w' = w := by
  obtain ⟨g, o, cap, pl, ap, c0, f0, hg, hne, hc, hm, d0, d1, d2, _, hj⟩ := h.cells
  rw [hj]
  clear hj
  have ca := ahead_any p ts w h
  clear h
  generalize hd ts = c at *
  generalize ts.length = n at *
  cases ap with
  | true =>
    go_enter Tryz.func175, Tryz.ntmps175
    go_wp2_with fail
    go_ret
    exact ⟨rfl, rfl⟩
  | false =>
    go_enter Tryz.func175, Tryz.ntmps175
    go_wp2_with fail
    refine ca.mono ?_
    rintro e w' ⟨rfl, hw'⟩
    have hw' := hw'.symm
    subst hw'
    go_wp2_with fail
    go_ret
    exact ⟨rfl, rfl⟩
set_option maxHeartbeats 1000000 in
theorem take_any (p : Nat) (ts : List Tok) (w : World) (h : PSt p ts w) (hh : hd ts ≠ -1) :
    Calls Tryz.prog 142 #[.pointer (some ⟨p, 0, none⟩)] w fun e w' => e = .returned (.agg #[.int .i32 (hd ts), .int .i64 (hp ts)]) ∧ PSt p ts.tail w' ∧ w.grownBy w' (some p) ∧ Below p w w' := by
  have hlt := h.lt
  obtain ⟨W, hW⟩ : ∃ W, W = w.alloc (.cells #[.int .i32 0, .int .i64 0] 174) := ⟨_, rfl⟩
  have hWs : W.heap.size = w.heap.size + 1 := by rw [hW]; simp
  have hgW : w.grownBy W (some p) := by rw [hW]; exact gb_alloc (gb_refl w _) _
  have hR : W.heap[w.heap.size]? = some (.cells #[.int .i32 0, .int .i64 0] 174 (0, 0)) := by rw [hW]; exact heap_alloc_new w _
  have h : PSt p ts W := h.above (by rw [hW]; exact (Below.refl _ w).alloc (Nat.le_refl _) _)
  obtain ⟨g, o, cap, h1, h2, h3, h4, h5, h6, h7⟩ := h
  obtain ⟨k1, k2⟩ := h6.tail hh
  have c0 : W.cell? ⟨p, 0, none⟩ = some (.slice (some ⟨g, o, none⟩) ts.length cap) := by simp [World.cell?, h1]
  have f0 : W.frozen? ⟨p, 0, none⟩ = false := by simp [World.frozen?, h1]
  have z0 : W.cell? ⟨w.heap.size, 0, none⟩ = some (.int .i32 0) := by simp [World.cell?, hR]
  have z1 : W.cell? ⟨w.heap.size, 1, none⟩ = some (.int .i64 0) := by simp [World.cell?, hR]
  have fz0 : W.frozen? ⟨w.heap.size, 0, none⟩ = false := by simp [World.frozen?, hR]
  have fz1 : W.frozen? ⟨w.heap.size, 1, none⟩ = false := by simp [World.frozen?, hR]
  have d0 : W.cell? ⟨g, o, none⟩ = some (.int .i32 (hd ts)) := by
    cases ts with
    | nil => simp at k2
    | cons t r => exact (h5 0 t rfl).1
  have d1 : W.cell? ⟨g, o + 1, none⟩ = some (.int .i64 (hp ts)) := by
    cases ts with
    | nil => simp at k2
    | cons t r => exact (h5 0 t rfl).2.1
  have key : ∀ X : World, X.heap[p]? = some (.cells #[.slice (some ⟨g, o + 3, none⟩) (ts.length - 1) (cap - 1)] 169 (0, 0)) → (∀ j, j < p → X.heap[j]? = W.heap[j]?) → PSt p ts.tail X := by
    intro X hX hXg
    refine ⟨g, o + 3, cap - 1, by simpa using hX, h2, by simp; omega, by omega, ?_, k1, h7.tail⟩
    intro j t ht
    have ht2 : ts[j + 1]? = some t := by rw [← ht]; simp
    obtain ⟨a, b, c⟩ := h5 (j + 1) t ht2
    have hc : ∀ i, X.cell? ⟨g, i, none⟩ = W.cell? ⟨g, i, none⟩ := fun i => World.cell?_of_block (hXg g h2)
    rw [hc, hc, hc, show o + 3 + 3 * j = o + 3 * (j + 1) by omega]
    exact ⟨a, b, c⟩
  have hcap : ¬ cap = 1 := by omega
  have hcap2 : 1 < cap := by omega
  have HK : Hid (∀ X : World, X.heap[p]? = some (.cells #[.slice (some ⟨g, o + 3, none⟩) (ts.length - 1) (cap - 1)] 169 (0, 0)) → (∀ j, j < p → X.heap[j]? = W.heap[j]?) → PSt p ts.tail X) := key
  have H1 : Hid (W.heap[p]? = some (.cells #[.slice (some ⟨g, o, none⟩) ts.length cap] 169 (0, 0))) := h1
  clear h1 h5 h6 h7 k1 key hh hR
  subst hW
  generalize hd ts = c at *
  generalize hp ts = pl at *
  generalize ts.length = n at *
  go_enter Tryz.func142, Tryz.ntmps142
  go_wp2_with fail
  have hG : w.grownBy (((w.setCell ⟨p, 0, none⟩ (.slice (some ⟨g, o + 3, none⟩) (n - 1) (cap - 1))).alloc (.cells #[.int .i32 c, .int .i64 pl] 174)).alloc (.cells #[.int .i32 c, .int .i64 pl] 174)) (some p) := gb_alloc (gb_alloc (gb_set (gb_refl w _) 0 _) _) _
  have hs : (w.setCell ⟨p, 0, none⟩ (.slice (some ⟨g, o + 3, none⟩) (n - 1) (cap - 1))).heap.size = w.heap.size := by simp [World.setCell]
  refine bodyPost_ret (v := .agg #[.int .i32 c, .int .i64 pl]) (by simp [results, Tryz.results142, go_sem]) rfl ⟨rfl, HK.out _ ?_ ?_, hG, gb_to_below hG (Nat.le_refl _) (by omega)⟩
  · rw [Below.heap_alloc _ _ _ (by simp; omega), Below.heap_alloc _ _ _ (by simp; omega)]
    have := H1.out
    rw [Below.heap_alloc _ _ _ hlt] at this
    simp [World.setCell, Array.getElem?_modify, this]
  · intro j hj
    rw [hG.block j (by omega) (by simp; omega), Below.heap_alloc _ _ _ (by omega)]
end Go.Proofs.YtodabmkcihafhaaGreatDoor

/- The program's parser: numeral. -/
namespace Go.Proofs.YtodabmkcihafhaaGreatDoor
open Go.RowKit
set_option linter.unusedVariables false

theorem encAll_one (c : Int) : encAll [c] = Utf8.encode c := by simp [encAll]
theorem enc_dig (c : Int) (h : isDig c = true) : (Utf8.encode c).size = 1 := by
  unfold isDig at h
  simp at h
  have v : Utf8.valid c = true := by simp [Utf8.valid]; omega
  simp [Utf8.encode, v, show c.toNat < 128 by omega, ByteArray.size]
theorem dig_ne {c : Int} (h : isDig c = true) : c ≠ -1 := by intro e; rw [e] at h; revert h; decide
theorem frac_ne {c : Int} (h : isFrac c = true) : c ≠ -1 := by intro e; rw [e] at h; revert h; decide

/-- Between two rounds of the numeral's digits. -/
def NumInv (ts : List Tok) (g : Nat) (t : ByteArray) (ts' : List Tok) : Prop :=
  ∃ acc, t = encAll acc ∧ t.size + g = 3 ∧ acc ++ (digs g ts').1 = hd ts :: (digs 2 ts.tail).1 ∧ (digs g ts').2 = (digs 2 ts.tail).2
theorem NumInv.start (ts : List Tok) (h : isDig (hd ts) = true) : NumInv ts 2 (Utf8.encode (hd ts)) ts.tail :=
  ⟨[hd ts], (encAll_one _).symm, by rw [enc_dig _ h], rfl, rfl⟩
theorem NumInv.next {ts ts' : List Tok} {g : Nat} {t : ByteArray} (h : NumInv ts (g + 1) t ts') (hj : isDig (jn ts') = true) : NumInv ts g (t ++ Utf8.encode (jn ts')) ts'.tail := by
  obtain ⟨acc, h1, h2, h3, h4⟩ := h
  have hg : digs (g + 1) ts' = (jn ts' :: (digs g ts'.tail).1, (digs g ts'.tail).2) := by rw [digs, if_pos hj]
  rw [hg] at h3 h4
  exact ⟨acc ++ [jn ts'], by rw [encAll_snoc, h1], by rw [ByteArray.size_append, enc_dig _ hj]; omega, by rw [← h3]; simp, h4⟩
theorem NumInv.stop {ts ts' : List Tok} {g : Nat} {t : ByteArray} (h : NumInv ts g t ts') (hj : g = 0 ∨ isDig (jn ts') = false) : t = encAll (hd ts :: (digs 2 ts.tail).1) ∧ ts' = (digs 2 ts.tail).2 := by
  obtain ⟨acc, h1, h2, h3, h4⟩ := h
  have : digs g ts' = ([], ts') := by
    cases g with
    | zero => rfl
    | succ g =>
      simp only [digs]
      rcases hj with hj | hj
      · omega
      · rw [if_neg (by rw [hj]; decide)]
  rw [this] at h3 h4
  simp at h3
  exact ⟨by rw [h1, h3], h4⟩

/-- What is known of the whole when the digits are through. -/
def DigDone (ts : List Tok) (t : ByteArray) (ts' : List Tok) : Prop :=
  ∃ d, isFrac (hd ts) = false ∧ (if hd ts = 48 then ([], ts.tail) else digs 2 ts.tail) = (d, ts') ∧ t = encAll (hd ts :: d) ∧ t.size ≤ 20
theorem DigDone.frac {ts ts' : List Tok} {t : ByteArray} (h : DigDone ts t ts') (hf : isFrac (jn ts') = true) : numT ts = ((numT ts).1, ts'.tail) ∧ encAll (numT ts).1 = t ++ Utf8.encode (jn ts') := by
  obtain ⟨d, h1, h2, h3, h4⟩ := h
  have hft : fracT ts' = ([jn ts'], ts'.tail) := by unfold fracT; rw [if_pos hf]
  have : numT ts = (hd ts :: d ++ [jn ts'], ts'.tail) := by
    unfold numT
    rw [if_neg (by rw [h1]; decide)]
    simp only [h2, hft]
  rw [this]
  refine ⟨rfl, ?_⟩
  rw [encAll_snoc, h3]
theorem DigDone.none {ts ts' : List Tok} {t : ByteArray} (h : DigDone ts t ts') (hf : isFrac (jn ts') = false) : numT ts = ((numT ts).1, ts') ∧ encAll (numT ts).1 = t := by
  obtain ⟨d, h1, h2, h3, h4⟩ := h
  have hft : fracT ts' = ([], ts') := by unfold fracT; rw [if_neg (by rw [hf]; decide)]
  have : numT ts = (hd ts :: d ++ [], ts') := by
    unfold numT
    rw [if_neg (by rw [h1]; decide)]
    simp only [h2, hft]
  rw [this]
  refine ⟨rfl, ?_⟩
  rw [List.append_nil, h3]

set_option maxHeartbeats 2000000 in
set_option maxRecDepth 100000 in
theorem pnumeral_any (p : Nat) (ts : List Tok) (w : World) (h : PSt p ts w) (hc : (isDig (hd ts) || isFrac (hd ts)) = true) :
    Calls Tryz.prog 166 #[.pointer (some ⟨p, 0, none⟩)] w fun e w' => e = .returned (.agg #[.string (encAll (numT ts).1)]) ∧ PSt p (numT ts).2 w' ∧ w.grownBy w' (some p) := by
  have hne : hd ts ≠ -1 := by
    rw [Bool.or_eq_true] at hc
    rcases hc with h | h
    · exact dig_ne h
    · exact frac_ne h
  have hr := h.endOk.2.hd
  have hlt := h.lt
  have hw0 : Below w.heap.size w (w.alloc (.cells #[.string ByteArray.empty] 178)) := (Below.refl _ _).alloc (Nat.le_refl _) _
  have qf := fldS0
  go_enter Tryz.func166, Tryz.ntmps166
  go_wp2_with fail
  refine (take_any p ts _ (h.above hw0) hne).mono ?_
  rintro e w1 ⟨rfl, h1, v1, hv1⟩
  have hres1 : w1.heap[w.heap.size]? = some (.cells #[.string ByteArray.empty] 178 (0, 0)) := by
    rw [v1.block _ (by simp) (by simp; omega)]
    exact heap_alloc_new w _
  have hb1 : w.grownBy w1 (some p) := gb_trans (gb_below (gb_refl w _) hw0) v1
  clear hv1 hw0
  go_wp2_with fail
  refine (isFraction_any (hd ts) _ hr.1 hr.2).mono ?_
  rintro e w2 ⟨rfl, hb2⟩
  have hw1lt : w.heap.size < w1.heap.size := (Array.getElem?_eq_some_iff.1 hres1).1
  have hres2 : w2.heap[w.heap.size]? = some (.cells #[.string ByteArray.empty] 178 (0, 0)) := by rw [hb2.block _ hw1lt]; exact hres1
  have h2 := h1.above hb2
  have hb12 : w.grownBy w2 (some p) := gb_below hb1 hb2
  have fz : w2.frozen? ⟨w.heap.size, 0, none⟩ = false := by simp [World.frozen?, hres2]
  have cz : w2.cell? ⟨w.heap.size, 0, none⟩ = some (.string ByteArray.empty) := by simp [World.cell?, hres2]
  clear h h1 hb1 hb2 hres1
  by_cases hf : isFrac (hd ts) = true
  · have HF : Hid (numT ts = ([hd ts], ts.tail)) := by show numT ts = _; unfold numT; rw [if_pos hf]
    have bf : isFrac (hd ts) = true := hf
    go_wp2_with fail
    refine bodyPost_ret (v := .agg #[.string (Utf8.encode (hd ts))]) (by simp [results, Tryz.results166, go_sem, cz]) rfl ?_
    rw [HF.out, encAll_one]
    exact ⟨rfl, h2.ext ((Below.refl _ _).setCell (p := ⟨w.heap.size, 0, none⟩) (by simp; omega) _), gb_new hb12 (Nat.le_refl _) 0 _⟩
  · have bf : isFrac (hd ts) = false := by simpa using hf
    have bd : isDig (hd ts) = true := by rw [bf, Bool.or_false] at hc; exact hc
    have hst := NumInv.start ts bd
    have hes := enc_dig _ bd
    clear hf hc fz cz
    go_wp2_with fail
    go_loopg [4] 2 (fun g s4 wr => ∃ t ts', s4 = .string t ∧ t.size ≤ 3 ∧ PSt p ts' wr ∧ wr.heap[w.heap.size]? = some (.cells #[.string ByteArray.empty] 178 (0, 0)) ∧ w.grownBy wr (some p) ∧ Hid ((hd ts = 48 ∧ t = Utf8.encode (hd ts) ∧ ts' = ts.tail) ∨ (hd ts ≠ 48 ∧ NumInv ts (3 - t.size) t ts')) ∧ g = 3 - t.size)
    case atStart =>
      refine ⟨_, _, rfl, by omega, h2, hres2, hb12, ?_, ?_⟩
      · by_cases h48 : hd ts = 48
        · exact Or.inl ⟨h48, rfl, rfl⟩
        · exact Or.inr ⟨h48, by rw [hes]; exact hst⟩
      · rw [hes]
    case round =>
      clear hst h2 hres2 hb12
      obtain ⟨t, ts', rfl, hts, h3, hres3, hb3, HI, hg⟩ := hrel
      go_upto_region 5 with fail
      go_cut [25] (fun s25 wc => s25 = .bool (decide (hd ts ≠ 48 ∧ t.size < 3 ∧ isDig (jn ts') = true)) ∧ wr = wc)
      case first =>
        by_cases q1 : hd ts = 48
        · have b1 : (hd ts != 48) = false := by simp [q1]
          have Q1 : Hid (hd ts = 48) := q1
          clear q1
          go_wp2_with fail
          go_meet
          case rel => exact ⟨congrArg Value.bool (by simp [Q1.out]), rfl⟩
        · have b1 : (hd ts != 48) = true := by simp [q1]
          by_cases q2 : t.size < 3
          · have b2 : (t.size : Int) < 3 := by omega
            go_wp2_with fail
            refine (joined_any p ts' _ h3).mono ?_
            rintro e w' ⟨rfl, rfl⟩
            go_wp2_with fail
            refine (isDigit_any (jn ts') _).mono ?_
            rintro e w' ⟨rfl, rfl⟩
            go_wp2_with fail
            go_meet
            case rel => exact ⟨congrArg Value.bool (by simp [q1, q2]), rfl⟩
          · have b2 : decide ((t.size : Int) < 3) = false := by simp; omega
            go_wp2_with fail
            go_meet
            case rel => exact ⟨congrArg Value.bool (by simp [q2]), rfl⟩
      case rest =>
        obtain ⟨rfl, rfl⟩ := hcut
        by_cases hq : hd ts ≠ 48 ∧ t.size < 3 ∧ isDig (jn ts') = true
        · rw [decide_eq_true hq]
          obtain ⟨q1, q2, q3⟩ := hq
          have hjd := hd_of_jn (dig_ne q3)
          have hnI : NumInv ts (3 - t.size) t ts' := by
            rcases HI.out with ⟨h48, _⟩ | ⟨_, hh⟩
            · exact absurd h48 q1
            · exact hh
          have he1 : (Utf8.encode (hd ts')).size = 1 := by rw [hjd]; exact enc_dig _ q3
          have HJ : Hid (NumInv ts (3 - (t ++ Utf8.encode (hd ts')).size) (t ++ Utf8.encode (hd ts')) ts'.tail) := by
            rw [show 3 - t.size = (3 - t.size - 1) + 1 by omega] at hnI
            have := hnI.next q3
            show NumInv _ _ _ _
            rw [ByteArray.size_append, he1, hjd, show 3 - (t.size + 1) = 3 - t.size - 1 by omega]
            exact this
          have hne' : hd ts' ≠ -1 := by rw [hjd]; exact dig_ne q3
          have QA : Hid (hd ts ≠ 48) := q1
          have n1 : ¬ 9223372036854775807 < t.size + (Utf8.encode (hd ts')).size := by omega
          clear HI hjd hnI q1 q3
          go_wp2_with fail
          refine (take_any p ts' _ h3 hne').mono ?_
          rintro e w4 ⟨rfl, h4, v4, hv4⟩
          have hres4 : w4.heap[w.heap.size]? = some (.cells #[.string ByteArray.empty] 178 (0, 0)) := by
            rw [v4.block _ (Array.getElem?_eq_some_iff.1 hres3).1 (by simp; omega)]
            exact hres3
          have hb4 : w.grownBy w4 (some p) := gb_trans hb3 v4
          have H4 : Hid (w4.heap[w.heap.size]? = some (.cells #[.string ByteArray.empty] 178 (0, 0))) := hres4
          clear hv4 h3 hb3 hres3 hres4 hne'
          go_wp2_with fail
          go_roundg (3 - (t ++ Utf8.encode (hd ts')).size)
          case measure => rw [ByteArray.size_append]; omega
          case rel => exact ⟨_, ts'.tail, rfl, by rw [ByteArray.size_append]; omega, h4, H4.out, hb4, Or.inr ⟨QA.out, HJ.out⟩, rfl⟩
        · rw [decide_eq_false hq]
          have hDD : DigDone ts t ts' := by
            rcases HI.out with ⟨h48, rfl, rfl⟩ | ⟨h48, hn⟩
            · exact ⟨[], bf, by rw [if_pos h48], by rw [encAll_one], by omega⟩
            · obtain ⟨e1, e2⟩ := hn.stop (by
                by_cases q2 : t.size < 3
                · right
                  have : ¬ isDig (jn ts') = true := fun hj => hq ⟨h48, q2, hj⟩
                  simpa using this
                · left; omega)
              exact ⟨(digs 2 ts.tail).1, bf, by rw [if_neg h48, e2], e1, by omega⟩
          have hjr := h3.endOk.2.jn
          have hw3lt : w.heap.size < wr.heap.size := (Array.getElem?_eq_some_iff.1 hres3).1
          clear HI hq
          go_wp2_with fail
          refine (joined_any p ts' _ h3).mono ?_
          rintro e w' ⟨rfl, rfl⟩
          go_wp2_with fail
          refine (isFraction_any (jn ts') _ hjr.1 hjr.2).mono ?_
          rintro e w4 ⟨rfl, hb4⟩
          have h4 := h3.above hb4
          have hres4 : w4.heap[w.heap.size]? = some (.cells #[.string ByteArray.empty] 178 (0, 0)) := by rw [hb4.block _ hw3lt]; exact hres3
          have hb34 : w.grownBy w4 (some p) := gb_below hb3 hb4
          clear h3 hres3 hb3 hb4
          by_cases hf : isFrac (jn ts') = true
          · obtain ⟨e1, e2⟩ := hDD.frac hf
            have hjd := hd_of_jn (frac_ne hf)
            have E1 : Hid ((numT ts).2 = ts'.tail ∧ encAll (numT ts).1 = t ++ Utf8.encode (hd ts')) := ⟨by rw [e1], by rw [hjd]; exact e2⟩
            have hne' : hd ts' ≠ -1 := by rw [hjd]; exact frac_ne hf
            have hs4 := enc_size (hd ts')
            have n1 : ¬ 9223372036854775807 < t.size + (Utf8.encode (hd ts')).size := by omega
            clear e1 e2 hDD hjd
            go_wp2_with fail
            refine (take_any p ts' _ h4 hne').mono ?_
            rintro e w5 ⟨rfl, h5, v5, hv5⟩
            have hres5 : w5.heap[w.heap.size]? = some (.cells #[.string ByteArray.empty] 178 (0, 0)) := by
              rw [v5.block _ (Array.getElem?_eq_some_iff.1 hres4).1 (by simp; omega)]
              exact hres4
            have hb5 : w.grownBy w5 (some p) := gb_trans hb34 v5
            have fz : w5.frozen? ⟨w.heap.size, 0, none⟩ = false := by simp [World.frozen?, hres5]
            have cz : w5.cell? ⟨w.heap.size, 0, none⟩ = some (.string ByteArray.empty) := by simp [World.cell?, hres5]
            clear hv5 h4 hres4 hb34 hres5
            go_wp2_with fail
            refine bodyPost_ret (v := .agg #[.string (t ++ Utf8.encode (hd ts'))]) (by simp [results, Tryz.results166, go_sem, cz]) rfl ?_
            rw [E1.out.1, E1.out.2]
            exact ⟨rfl, h5.ext ((Below.refl _ _).setCell (p := ⟨w.heap.size, 0, none⟩) (by simp; omega) _), gb_new hb5 (Nat.le_refl _) 0 _⟩
          · have bf2 : isFrac (jn ts') = false := by simpa using hf
            obtain ⟨e1, e2⟩ := hDD.none bf2
            have E1 : Hid ((numT ts).2 = ts' ∧ encAll (numT ts).1 = t) := ⟨by rw [e1], e2⟩
            have fz : w4.frozen? ⟨w.heap.size, 0, none⟩ = false := by simp [World.frozen?, hres4]
            have cz : w4.cell? ⟨w.heap.size, 0, none⟩ = some (.string ByteArray.empty) := by simp [World.cell?, hres4]
            clear e1 e2 hDD hres4
            go_wp2_with fail
            refine bodyPost_ret (v := .agg #[.string t]) (by simp [results, Tryz.results166, go_sem, cz]) rfl ?_
            rw [E1.out.1, E1.out.2]
            exact ⟨rfl, h4.ext ((Below.refl _ _).setCell (p := ⟨w.heap.size, 0, none⟩) (by simp; omega) _), gb_new hb34 (Nat.le_refl _) 0 _⟩
end Go.Proofs.YtodabmkcihafhaaGreatDoor

import Derived.Test.YtodabmkcihafhaaGreatDoorK6

/- A region that draws its order, by what holds between two operations. -/
namespace Go.Proofs.YtodabmkcihafhaaGreatDoor
open Go.RowKit
set_option linter.unusedVariables false

section
variable {P : Program} {md : Region.Mode} {ops : Array Oper} {Q : Exit → Act → World → Prop}

theorem inv_count {l : Array Bool} {i : Nat} (h : l.getD i true = false) : (l.setIfInBounds i true).toList.count false + 1 = l.toList.count false := by
  have hi : i < l.size := by
    apply Nat.lt_of_not_le
    intro hle
    rw [Array.getD_eq_getD_getElem?, Array.getElem?_eq_none hle] at h
    cases h
  have hv : l[i] = false := by
    rw [Array.getD_eq_getD_getElem?, Array.getElem?_eq_getElem hi] at h
    exact h
  obtain ⟨L⟩ := l
  simp only [List.getElem_toArray] at *
  rw [show (Array.setIfInBounds ⟨L⟩ i true).toList = L.set i true by simp]
  have : ∀ (L : List Bool) (i : Nat) (hi : i < L.length), L[i] = false → (L.set i true).count false + 1 = L.count false := by
    intro L
    induction L with
    | nil => intro i hi; simp at hi
    | cons b r ih =>
      intro i hi hv
      cases i with
      | zero =>
        simp at hv
        subst hv
        simp
      | succ i =>
        have := ih i (by simpa using hi) (by simpa using hv)
        simp only [List.set_cons_succ, List.count_cons]
        omega
  exact this L i hi hv

/-- What holds between two operations, in whatever order they come up. -/
theorem wpAny_inv {I : Array Bool → Act → World → Prop}
    (hstep : ∀ l a w i o, I l a w → ops[i]? = some o → l.getD i true = false → (∀ e ∈ o.after, Region.binds md e = true → l.getD e.on false = true) →
      ∀ K : Act → World → Prop, (∀ a' w', I (l.setIfInBounds i true) a' w' → K a' w') → if Region.wanted o (yielded ops a.tmps) = true then Oper.wp P o a w K Q else K (a.put o.dst undef) w)
    (hend : ∀ l a w, I l a w → Region.ready md ops l = [] → Q .normal a w) :
    ∀ (fuel : Nat) (l : Array Bool) (a : Act) (w : World), I l a w → l.toList.count false ≤ fuel → wpAny P md ops Q fuel l a w := by
  intro fuel
  induction fuel with
  | zero =>
    intro l a w hI hc
    have hr : Region.ready md ops l = [] := by
      rw [List.eq_nil_iff_forall_not_mem]
      intro i hi
      have := inv_count (mem_ready.1 hi).1
      omega
    exact ⟨hr, hend l a w hI hr⟩
  | succ fuel ih =>
    intro l a w hI hc
    refine ⟨fun h0 => hend l a w hI h0, fun i hi => ?_⟩
    obtain ⟨h0, o, ho, hall⟩ := mem_ready.1 hi
    refine wpOp_step ho (fun K hK => hstep l a w i o hI ho h0 hall K (fun a' w' h' => hK a' w' (ih _ a' w' h' ?_)))
    have := inv_count h0
    omega

/-- Every edge leads back: where nothing may come up, all have. -/
def backB (ops : Array Oper) : Bool := (List.range ops.size).all fun i => match ops[i]? with | some o => o.after.all fun e => !Region.binds .any e || decide (e.on < i) | none => true
theorem all_listed (hb : backB ops = true) {l : Array Bool} (hs : l.size = ops.size) (hr : Region.ready .any ops l = []) : ∀ i, i < ops.size → l.getD i false = true := by
  intro i
  induction i using Nat.strongRecOn with
  | ind i ih =>
    intro hi
    have hil : i < l.size := by omega
    cases hv : l.getD i true with
    | true =>
      rw [Array.getD_eq_getD_getElem?, Array.getElem?_eq_getElem hil] at hv ⊢
      exact hv
    | false =>
      exfalso
      obtain ⟨o, ho⟩ : ∃ o, ops[i]? = some o := ⟨ops[i], Array.getElem?_eq_getElem hi⟩
      have hmem : i ∈ Region.ready .any ops l := by
        refine mem_ready.2 ⟨hv, o, ho, fun e he hbd => ?_⟩
        have h1 : (match ops[i]? with | some o => o.after.all fun e => !Region.binds .any e || decide (e.on < i) | none => true) = true := List.all_eq_true.1 hb i (List.mem_range.2 hi)
        rw [ho] at h1
        have h2 : e.on < i := by
          have := Array.all_eq_true_iff_forall_mem.1 h1 e he
          rw [hbd] at this
          simpa using this
        exact ih e.on h2 (by omega)
      rw [hr] at hmem
      cases hmem

/-! ### A region whose operations yield what is known ahead, in whatever order -/
def actOf (nt : Nat) (u : Nat → Value) : Act := ⟨((List.range nt).map u).toArray, []⟩
def upB (b : Nat → Bool) (i : Nat) : Nat → Bool := fun k => if k = i then true else b k
theorem actOf_put (nt : Nat) (u : Nat → Value) (s : Nat) (v : Value) (hs : s < nt) : (actOf nt u).put (some s) v = actOf nt (fun k => if k = s then v else u k) := by
  unfold actOf Act.put
  simp only
  congr 1
  apply Array.ext_getElem?
  intro i
  rw [Array.getElem?_setIfInBounds]
  simp only [List.size_toArray, List.length_map, List.length_range, List.getElem?_toArray, List.getElem?_map]
  by_cases h : s = i
  · subst h
    simp [hs]
  · rw [if_neg h]
    by_cases hi : i < nt
    · simp [List.getElem?_range hi, Ne.symm h]
    · rw [List.getElem?_eq_none (by simpa using hi)]; rfl

/-- The slots that the operations fill: each once. -/
def slotsB (ops : Array Oper) (nt : Nat) : Bool :=
  (List.range ops.size).all fun i => (List.range ops.size).all fun j => match (ops[i]?).bind Oper.dst, (ops[j]?).bind Oper.dst with
    | some s, some t => decide (s < nt) && (decide (s ≠ t) || decide (i = j))
    | some s, none => decide (s < nt)
    | _, _ => true
theorem slots_lt {nt : Nat} (h : slotsB ops nt = true) {i s : Nat} (hi : (ops[i]?).bind Oper.dst = some s) : s < nt := by
  have hlt : i < ops.size := by
    apply Nat.lt_of_not_le
    intro hle
    rw [Array.getElem?_eq_none hle] at hi
    cases hi
  have := List.all_eq_true.1 (List.all_eq_true.1 h i (List.mem_range.2 hlt)) i (List.mem_range.2 hlt)
  rw [hi] at this
  simp at this
  exact this
theorem slots_inj {nt : Nat} (h : slotsB ops nt = true) {i j s : Nat} (hi : (ops[i]?).bind Oper.dst = some s) (hj : (ops[j]?).bind Oper.dst = some s) : i = j := by
  have lt : ∀ {k : Nat}, (ops[k]?).bind Oper.dst = some s → k < ops.size := by
    intro k hk
    apply Nat.lt_of_not_le
    intro hle
    rw [Array.getElem?_eq_none hle] at hk
    cases hk
  have := List.all_eq_true.1 (List.all_eq_true.1 h i (List.mem_range.2 (lt hi))) j (List.mem_range.2 (lt hj))
  rw [hi, hj] at this
  simp at this
  exact this.2

/-- What the slots hold: what an operation that has come up yields; all others as at the start. -/
structure Slots (ops : Array Oper) (R : Nat → Value → Prop) (u0 : Nat → Value) (b : Nat → Bool) (u : Nat → Value) : Prop where
  got : ∀ k s : Nat, (ops[k]?).bind Oper.dst = some s → b k = true → R k (u s)
  old : ∀ s : Nat, (∀ k : Nat, (ops[k]?).bind Oper.dst ≠ some s) → u s = u0 s
def noDstB (ops : Array Oper) (s : Nat) : Bool := ops.all fun o => decide (o.dst ≠ some s)
theorem Slots.oldB {R : Nat → Value → Prop} {u0 : Nat → Value} {b : Nat → Bool} {u : Nat → Value} (h : Slots ops R u0 b u) (s : Nat) (hb : noDstB ops s = true) : u s = u0 s := by
  refine h.old s (fun k e => ?_)
  cases ho : ops[k]? with
  | none => rw [ho] at e; cases e
  | some o =>
    rw [ho] at e
    have := Array.all_eq_true_iff_forall_mem.1 hb o (Array.mem_of_getElem? ho)
    simp at this
    exact this e
def upV (u : Nat → Value) (d : Option Nat) (v : Value) : Nat → Value := match d with | some s => fun k => if k = s then v else u k | none => u

/-- A region that draws its order: R: what each operation yields; WI: the world, by what has come up and what the slots hold. -/
theorem region_inv {id nt : Nat} {a0 : Act} {w : World} (u0 : Nat → Value) (R : Nat → Value → Prop) (WI : (Nat → Bool) → (Nat → Value) → World → Prop) (ha : a0 = actOf nt u0) (hm : P.follows .mixedOrders = true) (hback : backB ops = true) (hslots : slotsB ops nt = true) (h0 : WI (fun _ => false) u0 { w with drawn := w.drawn + 1 })
    (hstep : ∀ (i : Nat) (o : Oper) (b : Nat → Bool) (u : Nat → Value) (w' : World), ops[i]? = some o → b i = false → (∀ e ∈ o.after, Region.binds .any e = true → b e.on = true) → Slots ops R u0 b u → WI b u w' →
      ∀ K : Act → World → Prop, (∀ v w'' A, (actOf nt u).put o.dst v = A → (o.dst.isSome = true → R i v) → WI (upB b i) (upV u o.dst v) w'' → K A w'') → if Region.wanted o (yielded ops (actOf nt u).tmps) = true then Oper.wp P o (actOf nt u) w' K Q else K ((actOf nt u).put o.dst undef) w')
    (hend : ∀ (b : Nat → Bool) (u : Nat → Value) (w' : World), (∀ k, k < ops.size → b k = true) → Slots ops R u0 b u → WI b u w' → Q .normal (actOf nt u) w') :
    (Code.region id ops true).wp P Q a0 w := by
  subst ha
  refine wp_region_any hm (wpAny_inv (I := fun l a w' => ∃ (b : Nat → Bool) (u : Nat → Value), l = ((List.range ops.size).map b).toArray ∧ a = actOf nt u ∧ Slots ops R u0 b u ∧ WI b u w') ?_ ?_ _ _ _ _ ?_ ?_)
  · rintro l a w' i o ⟨b, u, rfl, rfl, hU, hW⟩ ho hl hall K hK
    have hi : i < ops.size := (Array.getElem?_eq_some_iff.1 ho).1
    have gd : ∀ k d, k < ops.size → (((List.range ops.size).map b).toArray).getD k d = b k := by
      intro k d hk
      rw [Array.getD_eq_getD_getElem?]
      simp [List.getElem?_range hk]
    have hbi : b i = false := by rw [← gd i true hi]; exact hl
    refine hstep i o b u w' ho hbi (fun e he hb => ?_) hU hW K (fun v w'' A hA hv hW'' => hA ▸ hK _ _ ?_)
    · have h1 := hall e he hb
      rcases Nat.lt_or_ge e.on ops.size with h2 | h2
      · rw [gd _ _ h2] at h1; exact h1
      · rw [Array.getD_eq_getD_getElem?, Array.getElem?_eq_none (by simpa using h2)] at h1; cases h1
    · have hset : (((List.range ops.size).map b).toArray).setIfInBounds i true = ((List.range ops.size).map (upB b i)).toArray := by
        apply Array.ext_getElem?
        intro k
        rw [Array.getElem?_setIfInBounds]
        simp only [List.size_toArray, List.length_map, List.length_range, List.getElem?_toArray, List.getElem?_map]
        by_cases h : i = k
        · subst h
          simp [hi, upB]
        · rw [if_neg h]
          by_cases hk : k < ops.size
          · simp [List.getElem?_range hk, upB, Ne.symm h]
          · rw [List.getElem?_eq_none (by simpa using hk)]; rfl
      have hdst : (ops[i]?).bind Oper.dst = o.dst := by rw [ho]; rfl
      cases hd : o.dst with
      | none =>
        rw [hd] at hW''
        refine ⟨upB b i, u, hset, rfl, ⟨fun k s hk hb => ?_, hU.old⟩, hW''⟩
        unfold upB at hb
        split at hb
        · rename_i e; subst e; rw [hdst, hd] at hk; cases hk
        · exact hU.got k s hk hb
      | some s =>
        rw [hd] at hW''
        have hs : (ops[i]?).bind Oper.dst = some s := by rw [hdst, hd]
        have hv' := hv (by rw [hd]; rfl)
        refine ⟨upB b i, upV u (some s) v, hset, actOf_put nt u s v (slots_lt hslots hs), ⟨fun k t hk hb => ?_, fun t ht => ?_⟩, hW''⟩
        · show R k (if t = s then v else u t)
          by_cases e : t = s
          · subst e
            have := slots_inj hslots hk hs
            subst this
            rw [if_pos rfl]
            exact hv'
          · rw [if_neg e]
            unfold upB at hb
            split at hb
            · rename_i e2; subst e2; rw [hs] at hk; injection hk with hk; exact absurd hk.symm e
            · exact hU.got k t hk hb
        · show (if t = s then v else u t) = u0 t
          have e : t ≠ s := fun e => ht i (by rw [e]; exact hs)
          rw [if_neg e]
          exact hU.old t ht
  · rintro l a w' ⟨b, u, rfl, rfl, hU, hW⟩ hr
    refine hend b u w' (fun k hk => ?_) hU hW
    have := all_listed hback (by simp) hr k hk
    rw [Array.getD_eq_getD_getElem?] at this
    simpa [List.getElem?_range hk] using this
  · refine ⟨fun _ => false, u0, ?_, rfl, ⟨fun k s _ h => (by cases h), fun _ _ => rfl⟩, h0⟩
    apply Array.ext_getElem?
    intro k
    simp only [List.getElem?_toArray, List.getElem?_map]
    by_cases hk : k < ops.size
    · simp [hk]
    · rw [List.getElem?_eq_none (by simpa using hk), Array.getElem?_eq_none (by simpa using hk)]; rfl
  · simp
end
end Go.Proofs.YtodabmkcihafhaaGreatDoor

/- What a call on two numbers has in memory. -/
namespace Go.Proofs.YtodabmkcihafhaaGreatDoor
open Go.RowKit
set_option linter.unusedVariables false

def outV (aB : Addr) (fl : Bool) (x : Num) : Value := .tuple #[if fl then .agg #[.int .i64 0, .int .i64 0, .int .i64 0, .int .i64 0] else .agg #[.int .i64 x.re.n, .int .i64 x.re.d, .int .i64 x.im.n, .int .i64 x.im.d], if fl then .iface 285 (.pointer (some aB)) else .nilIface]
theorem RkSt.new (w : World) : RkSt w.heap.size false (w.alloc (.cells #[.bool false] 254)) := heap_alloc_new w _

/-- The end, the world under a name of its own. -/
theorem bp_gen {P : Program} {f : Func} {Q : Ending → World → Prop} {x : Exit} {a : Act} {W : World} (R : World → Prop) (h : R W) (k : ∀ W', R W' → bodyPost P f Q x a W') : bodyPost P f Q x a W := k W h
theorem hidMk {p : Prop} (h : p) : Hid p := h
/-- The blocks of a call on two numbers: they, the result, the reckoner (block R), and fractions in blocks of their own. -/
structure Rek (w0 : World) (R : Nat) (x y : Num) (ex : List (Nat × Fr)) (fl : Bool) (w : World) : Prop where
  hx : w.heap[w0.heap.size]? = some (.cells #[.int .i64 x.re.n, .int .i64 x.re.d, .int .i64 x.im.n, .int .i64 x.im.d] 82 (0, 0))
  hy : w.heap[w0.heap.size + 1]? = some (.cells #[.int .i64 y.re.n, .int .i64 y.re.d, .int .i64 y.im.n, .int .i64 y.im.d] 82 (0, 0))
  hz : w.heap[w0.heap.size + 1 + 1]? = some (.cells #[.int .i64 0, .int .i64 0, .int .i64 0, .int .i64 0] 82 (0, 0))
  hr : RkSt R fl w
  hR : w0.heap.size + 1 + 1 < R
  hb : Below w0.heap.size w0 w
  hex : ∀ p ∈ ex, R < p.1 ∧ w.heap[p.1]? = some (.cells #[.int .i64 p.2.n, .int .i64 p.2.d] 80 (0, 0))
theorem Rek.grown {w0 w w' : World} {R : Nat} {x y : Num} {ex : List (Nat × Fr)} {fl fl' : Bool} (h : Rek w0 R x y ex fl w) (g : w.grownBy w' (some R)) (hr : RkSt R fl' w') : Rek w0 R x y ex fl' w' := by
  have l := h.hr.lt
  have r := h.hR
  refine ⟨?_, ?_, ?_, hr, r, ?_, fun p hp => ⟨(h.hex p hp).1, ?_⟩⟩
  · rw [g.block _ (by omega) (by simp; omega)]; exact h.hx
  · rw [g.block _ (by omega) (by simp; omega)]; exact h.hy
  · rw [g.block _ (by omega) (by simp; omega)]; exact h.hz
  · exact h.hb.trans (gb_to_below g (by omega) (by omega))
  · have q := h.hex p hp
    rw [g.block _ (Array.getElem?_eq_some_iff.1 q.2).1 (by simp; omega)]; exact q.2
theorem Rek.below {w0 w w' : World} {R : Nat} {x y : Num} {ex : List (Nat × Fr)} {fl : Bool} (h : Rek w0 R x y ex fl w) (g : Below w.heap.size w w') : Rek w0 R x y ex fl w' := by
  have l := h.hr.lt
  exact h.grown ⟨g.os, g.tape, g.output, g.size, fun j hj _ => g.block j hj⟩ (by unfold RkSt; rw [g.block _ l]; exact h.hr)
theorem Rek.drew {w0 w : World} {R : Nat} {x y : Num} {ex : List (Nat × Fr)} {fl : Bool} (h : Rek w0 R x y ex fl w) : Rek w0 R x y ex fl w.drew := ⟨h.hx, h.hy, h.hz, h.hr, h.hR, h.hb.drew, h.hex⟩
theorem Rek.set {w0 w : World} {R B : Nat} {x y : Num} {ex : List (Nat × Fr)} {fl : Bool} (h : Rek w0 R x y ex fl w) (hB : R < B) (hq : ∀ q ∈ ex, q.1 < B) (v u : Value) : Rek w0 R x y ex fl ((w.setCell ⟨B, 0, none⟩ v).setCell ⟨B, 1, none⟩ u) := by
  have r := h.hR
  have k : ∀ j, j ≠ B → ((w.setCell ⟨B, 0, none⟩ v).setCell ⟨B, 1, none⟩ u).heap[j]? = w.heap[j]? := fun j hj => by
    rw [Below.heap_setCell _ _ _ _ hj, Below.heap_setCell _ _ _ _ hj]
  refine ⟨?_, ?_, ?_, ?_, r, ?_, fun p hp => ⟨(h.hex p hp).1, ?_⟩⟩
  · rw [k _ (by omega)]; exact h.hx
  · rw [k _ (by omega)]; exact h.hy
  · rw [k _ (by omega)]; exact h.hz
  · unfold RkSt; rw [k _ (by omega)]; exact h.hr
  · exact (h.hb.setCell (p := ⟨B, 0, none⟩) (by simp; omega) _).setCell (p := ⟨B, 1, none⟩) (by simp; omega) _
  · rw [k _ (by have := hq p hp; omega)]; exact (h.hex p hp).2
theorem Rek.more {w0 w : World} {R B : Nat} {x y : Num} {ex : List (Nat × Fr)} {fl : Bool} {f : Fr} (h : Rek w0 R x y ex fl w) (hB : R < B) (hc : w.heap[B]? = some (.cells #[.int .i64 f.n, .int .i64 f.d] 80 (0, 0))) : Rek w0 R x y ((B, f) :: ex) fl w :=
  ⟨h.hx, h.hy, h.hz, h.hr, h.hR, h.hb, fun p hp => by
    rcases List.mem_cons.1 hp with rfl | hp
    · exact ⟨hB, hc⟩
    · exact h.hex p hp⟩
theorem two_set {w : World} {B : Nat} {x y : Value} {t : TypeId} (h : w.heap[B]? = some (.cells #[x, y] t (0, 0))) (v u : Value) : ((w.setCell ⟨B, 0, none⟩ v).setCell ⟨B, 1, none⟩ u).heap[B]? = some (.cells #[v, u] t (0, 0)) := by
  simp [World.setCell, Array.getElem?_modify, h]
theorem Rek.new (w : World) (x y : Num) : Rek w (w.heap.size + 1 + 1 + 1) x y [] false
    ((((w.alloc (.cells #[.int .i64 x.re.n, .int .i64 x.re.d, .int .i64 x.im.n, .int .i64 x.im.d] 82)).alloc (.cells #[.int .i64 y.re.n, .int .i64 y.re.d, .int .i64 y.im.n, .int .i64 y.im.d] 82)).alloc (.cells #[.int .i64 0, .int .i64 0, .int .i64 0, .int .i64 0] 82)).alloc (.cells #[.bool false] 254)) := by
  refine ⟨?_, ?_, ?_, ?_, by omega, ?_, fun p hp => by cases hp⟩
  · rw [Below.heap_alloc _ _ _ (by simp; omega), Below.heap_alloc _ _ _ (by simp; omega), Below.heap_alloc _ _ _ (by simp)]
    exact heap_alloc_new w _
  · rw [Below.heap_alloc _ _ _ (by simp), Below.heap_alloc _ _ _ (by simp)]
    have := heap_alloc_new (w.alloc (.cells #[.int .i64 x.re.n, .int .i64 x.re.d, .int .i64 x.im.n, .int .i64 x.im.d] 82)) (.cells #[.int .i64 y.re.n, .int .i64 y.re.d, .int .i64 y.im.n, .int .i64 y.im.d] 82)
    simpa using this
  · rw [Below.heap_alloc _ _ _ (by simp)]
    have := heap_alloc_new ((w.alloc (.cells #[.int .i64 x.re.n, .int .i64 x.re.d, .int .i64 x.im.n, .int .i64 x.im.d] 82)).alloc (.cells #[.int .i64 y.re.n, .int .i64 y.re.d, .int .i64 y.im.n, .int .i64 y.im.d] 82)) (.cells #[.int .i64 0, .int .i64 0, .int .i64 0, .int .i64 0] 82)
    simpa using this
  · have := heap_alloc_new (((w.alloc (.cells #[.int .i64 x.re.n, .int .i64 x.re.d, .int .i64 x.im.n, .int .i64 x.im.d] 82)).alloc (.cells #[.int .i64 y.re.n, .int .i64 y.re.d, .int .i64 y.im.n, .int .i64 y.im.d] 82)).alloc (.cells #[.int .i64 0, .int .i64 0, .int .i64 0, .int .i64 0] 82)) (.cells #[.bool false] 254)
    unfold RkSt
    simpa using this
  · exact ((((Below.refl _ w).alloc (Nat.le_refl _) _).alloc (by simp) _).alloc (by simp; omega) _).alloc (by simp; omega) _
/-- A result of four cells, written. -/
theorem four_set {w : World} {B : Nat} {x y z u : Value} {t : TypeId} (h : w.heap[B]? = some (.cells #[x, y, z, u] t (0, 0))) (a b c d : Value) : ((((w.setCell ⟨B, 0, none⟩ a).setCell ⟨B, 1, none⟩ b).setCell ⟨B, 2, none⟩ c).setCell ⟨B, 3, none⟩ d).heap[B]? = some (.cells #[a, b, c, d] t (0, 0)) := by
  simp [World.setCell, Array.getElem?_modify, h]
theorem four_frozen {w : World} {B : Nat} {x y z u : Value} {t : TypeId} (h : w.heap[B]? = some (.cells #[x, y, z, u] t (0, 0))) : w.frozen? ⟨B, 0, none⟩ = false ∧ w.frozen? ⟨B, 1, none⟩ = false ∧ w.frozen? ⟨B, 2, none⟩ = false ∧ w.frozen? ⟨B, 3, none⟩ = false := by
  simp [World.frozen?, h]
theorem below_four {w0 w : World} {B : Nat} (h : Below w0.heap.size w0 w) (hB : w0.heap.size ≤ B) (a b c d : Value) : Below w0.heap.size w0 ((((w.setCell ⟨B, 0, none⟩ a).setCell ⟨B, 1, none⟩ b).setCell ⟨B, 2, none⟩ c).setCell ⟨B, 3, none⟩ d) :=
  (((h.setCell (p := ⟨B, 0, none⟩) hB _).setCell (p := ⟨B, 1, none⟩) hB _).setCell (p := ⟨B, 2, none⟩) hB _).setCell (p := ⟨B, 3, none⟩) hB _
/-- What number answers, its parts under names. -/
theorem outV_parts (aB : Addr) (fl : Bool) (x : Num) : ∃ (p q r s : Int) (E : Value), outV aB fl x = .tuple #[.agg #[.int .i64 p, .int .i64 q, .int .i64 r, .int .i64 s], E] ∧ (E = .nilIface ∨ E = .iface 285 (.pointer (some aB))) := by
  cases fl
  · exact ⟨_, _, _, _, _, rfl, Or.inl rfl⟩
  · exact ⟨_, _, _, _, _, rfl, Or.inr rfl⟩
end Go.Proofs.YtodabmkcihafhaaGreatDoor

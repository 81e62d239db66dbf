import Derived.Test.YtodabmkcihafhaaGreatDoorK7
import Derived.Test.YtodabmkcihafhaaGreatDoorK22
import Derived.Test.YtodabmkcihafhaaGreatDoorK6
import Derived.Test.YtodabmkcihafhaaGreatDoorK16

/- A region that draws its order, where calls are deferred already. -/
namespace Go.Proofs.YtodabmkcihafhaaGreatDoor
open Go.RowKit
set_option linter.unusedVariables false
def actD (ds : List Deferred) (nt : Nat) (u : Nat → Value) : Act := ⟨((List.range nt).map u).toArray, ds⟩
theorem actD_put (ds : List Deferred) (nt : Nat) (u : Nat → Value) (s : Nat) (v : Value) (hs : s < nt) : (actD ds nt u).put (some s) v = actD ds nt (fun k => if k = s then v else u k) := by
  unfold actD Act.put
  simp only
  congr 1
  apply Array.ext_getElem?
  intro i
  rw [Array.getElem?_setIfInBounds]
  simp only [List.size_toArray, List.length_map, List.length_range, List.getElem?_toArray, List.getElem?_map]
  by_cases h : s = i
  · subst h
    simp [hs]
  · rw [if_neg h]
    by_cases hi : i < nt
    · simp [List.getElem?_range hi, Ne.symm h]
    · rw [List.getElem?_eq_none (by simpa using hi)]; rfl

section
variable {P : Program} {ops : Array Oper} {Q : Exit → Act → World → Prop}
theorem region_invD {id nt : Nat} (ds : List Deferred) {a0 : Act} {w : World} (u0 : Nat → Value) (R : Nat → Value → Prop) (WI : (Nat → Bool) → (Nat → Value) → World → Prop) (ha : a0 = actD ds nt u0) (hm : P.follows .mixedOrders = true) (hback : backB ops = true) (hslots : slotsB ops nt = true) (h0 : WI (fun _ => false) u0 { w with drawn := w.drawn + 1 })
    (hstep : ∀ (i : Nat) (o : Oper) (b : Nat → Bool) (u : Nat → Value) (w' : World), ops[i]? = some o → b i = false → (∀ e ∈ o.after, Region.binds .any e = true → b e.on = true) → Slots ops R u0 b u → WI b u w' →
      ∀ K : Act → World → Prop, (∀ v w'' A, (actD ds nt u).put o.dst v = A → (o.dst.isSome = true → R i v) → WI (upB b i) (upV u o.dst v) w'' → K A w'') → if Region.wanted o (yielded ops (actD ds nt u).tmps) = true then Oper.wp P o (actD ds nt u) w' K Q else K ((actD ds nt u).put o.dst undef) w')
    (hend : ∀ (b : Nat → Bool) (u : Nat → Value) (w' : World), (∀ k, k < ops.size → b k = true) → Slots ops R u0 b u → WI b u w' → Q .normal (actD ds nt u) w') :
    (Code.region id ops true).wp P Q a0 w := by
  subst ha
  refine wp_region_any hm (wpAny_inv (I := fun l a w' => ∃ (b : Nat → Bool) (u : Nat → Value), l = ((List.range ops.size).map b).toArray ∧ a = actD ds nt u ∧ Slots ops R u0 b u ∧ WI b u w') ?_ ?_ _ _ _ _ ?_ ?_)
  · rintro l a w' i o ⟨b, u, rfl, rfl, hU, hW⟩ ho hl hall K hK
    have hi : i < ops.size := (Array.getElem?_eq_some_iff.1 ho).1
    have gd : ∀ k d, k < ops.size → (((List.range ops.size).map b).toArray).getD k d = b k := by
      intro k d hk
      rw [Array.getD_eq_getD_getElem?]
      simp [List.getElem?_range hk]
    have hbi : b i = false := by rw [← gd i true hi]; exact hl
    refine hstep i o b u w' ho hbi (fun e he hb => ?_) hU hW K (fun v w'' A hA hv hW'' => hA ▸ hK _ _ ?_)
    · have h1 := hall e he hb
      rcases Nat.lt_or_ge e.on ops.size with h2 | h2
      · rw [gd _ _ h2] at h1; exact h1
      · rw [Array.getD_eq_getD_getElem?, Array.getElem?_eq_none (by simpa using h2)] at h1; cases h1
    · have hset : (((List.range ops.size).map b).toArray).setIfInBounds i true = ((List.range ops.size).map (upB b i)).toArray := by
        apply Array.ext_getElem?
        intro k
        rw [Array.getElem?_setIfInBounds]
        simp only [List.size_toArray, List.length_map, List.length_range, List.getElem?_toArray, List.getElem?_map]
        by_cases h : i = k
        · subst h
          simp [hi, upB]
        · rw [if_neg h]
          by_cases hk : k < ops.size
          · simp [List.getElem?_range hk, upB, Ne.symm h]
          · rw [List.getElem?_eq_none (by simpa using hk)]; rfl
      have hdst : (ops[i]?).bind Oper.dst = o.dst := by rw [ho]; rfl
      cases hd : o.dst with
      | none =>
        rw [hd] at hW''
        refine ⟨upB b i, u, hset, rfl, ⟨fun k s hk hb => ?_, hU.old⟩, hW''⟩
        unfold upB at hb
        split at hb
        · rename_i e; subst e; rw [hdst, hd] at hk; cases hk
        · exact hU.got k s hk hb
      | some s =>
        rw [hd] at hW''
        have hs : (ops[i]?).bind Oper.dst = some s := by rw [hdst, hd]
        have hv' := hv (by rw [hd]; rfl)
        refine ⟨upB b i, upV u (some s) v, hset, actD_put ds nt u s v (slots_lt hslots hs), ⟨fun k t hk hb => ?_, fun t ht => ?_⟩, hW''⟩
        · show R k (if t = s then v else u t)
          by_cases e : t = s
          · subst e
            have := slots_inj hslots hk hs
            subst this
            rw [if_pos rfl]
            exact hv'
          · rw [if_neg e]
            unfold upB at hb
            split at hb
            · rename_i e2; subst e2; rw [hs] at hk; injection hk with hk; exact absurd hk.symm e
            · exact hU.got k t hk hb
        · show (if t = s then v else u t) = u0 t
          have e : t ≠ s := fun e => ht i (by rw [e]; exact hs)
          rw [if_neg e]
          exact hU.old t ht
  · rintro l a w' ⟨b, u, rfl, rfl, hU, hW⟩ hr
    refine hend b u w' (fun k hk => ?_) hU hW
    have := all_listed hback (by simp) hr k hk
    rw [Array.getD_eq_getD_getElem?] at this
    simpa [List.getElem?_range hk] using this
  · refine ⟨fun _ => false, u0, ?_, rfl, ⟨fun k s _ h => (by cases h), fun _ _ => rfl⟩, h0⟩
    apply Array.ext_getElem?
    intro k
    simp only [List.getElem?_toArray, List.getElem?_map]
    by_cases hk : k < ops.size
    · simp [hk]
    · rw [List.getElem?_eq_none (by simpa using hk), Array.getElem?_eq_none (by simpa using hk)]; rfl
  · simp
end
theorem act_ofD {a : Act} {nt : Nat} {ds : List Deferred} (hs : a.tmps.size = nt) (hd : a.defers = ds) : a = actD ds nt (fun s => a.tmps.getD s undef) := by
  obtain ⟨t, d⟩ := a
  simp only at hs hd
  subst hd hs
  unfold actD
  congr 1
  apply Array.ext_getElem?
  intro i
  simp only [List.getElem?_toArray, List.getElem?_map]
  by_cases h : i < t.size
  · simp [Array.getD_eq_getD_getElem?, h]
  · rw [Array.getElem?_eq_none (by omega), List.getElem?_eq_none (by simpa using h)]; rfl
end Go.Proofs.YtodabmkcihafhaaGreatDoor

/- Let: the program's. -/
namespace Go.Proofs.YtodabmkcihafhaaGreatDoor
open Go.RowKit Go.MuLone
set_option linter.unusedVariables false
theorem U8T.kept {N : Nat} {aZ aB : Addr} {w w' : World} (h : U8T w) (hS : Sen N aZ aB w) (g : ∀ j, j < N → w'.heap[j]? = w.heap[j]?) : U8T w' := by
  have hl := hS.lt.1
  refine ⟨fun c hc => ?_, fun i hi => ?_⟩
  · rw [World.cell?_of_block (w := w) (g _ (Nat.lt_of_lt_of_le (show 0 < 5 by decide) hl))]
    exact h.1 c hc
  · rw [World.cell?_of_block (w := w) (g _ (Nat.lt_of_lt_of_le (show 1 < 5 by decide) hl)), World.cell?_of_block (w := w) (g _ (Nat.lt_of_lt_of_le (show 1 < 5 by decide) hl))]
    exact h.2 i hi
/-- Let's world. -/
structure LtW (N : Nat) (aZ aB : Addr) (K P m T r : Nat) (names : List (Int × Num)) (w : World) (l : Int) (W : World) : Prop where
  k : W.heap[K]? = some (.cells (bkC P l) 73 (0, 0))
  p : Pw N aZ aB P m T r names W
  hk : Kp (fun k => k = K ∨ k = r) w W
section
variable {N : Nat} {aZ aB : Addr} {K P m T r : Nat} {names : List (Int × Num)} {w W W' : World} {l : Int}
theorem LtW.below (h : LtW N aZ aB K P m T r names w l W) (g : Below W.heap.size W W') : LtW N aZ aB K P m T r names w l W' :=
  ⟨(g.block _ (Array.getElem?_eq_some_iff.1 h.k).1).trans h.k, h.p.below g, h.hk.below g⟩
/-- A page lies beside a book: a store into the book leaves it. -/
theorem Pw.setK {v : Array Value} (h : Pw N aZ aB P m T r names W) (hk : W.heap[K]? = some (.cells v 73 (0, 0))) (hN : N ≤ K) (i : Nat) (u : Value) : Pw N aZ aB P m T r names (W.setCell ⟨K, i, none⟩ u) := by
  obtain ⟨es, clock, h1, h2⟩ := h.pg.hm
  obtain ⟨es', clock', h3, h4⟩ := h.tb.hr
  have nP : P ≠ K := fun e => by have := h.hP; rw [e, hk] at this; simp at this
  have nm : m ≠ K := fun e => by rw [e, hk] at h1; cases h1
  have nr : r ≠ K := fun e => by rw [e, hk] at h3; cases h3
  have nT : T ≠ K := fun e => by have := h.tb.ht; rw [e, hk] at this; simp at this
  have hP' := (Below.heap_setCell W ⟨K, i, none⟩ u P nP).trans h.hP
  refine ⟨⟨h.pg.hS.kept fun j hj => Below.heap_setCell _ _ _ _ (by simp; omega), by simpa using h.pg.hN, ?_, es, clock, (Below.heap_setCell _ _ _ _ nm).trans h1, h2⟩, hP', ⟨(Below.heap_setCell _ _ _ _ nT).trans h.tb.ht, es', clock', (Below.heap_setCell _ _ _ _ nr).trans h3, h4⟩, h.mr, h.rN, h.nm⟩
  simp [World.cell?, hP']
theorem LtW.lock (h : LtW N aZ aB K P m T r names w l W) (hN : N ≤ K) (l' : Int) : LtW N aZ aB K P m T r names w l' (W.setCell ⟨K, 0, none⟩ (.int .i32 l')) :=
  ⟨bk_set h.k l', h.p.setK h.k hN _ _, h.hk.setCell (p := ⟨K, 0, none⟩) (Or.inl (Or.inl rfl)) _⟩
theorem LtW.kept (h : LtW N aZ aB K P m T r names w l W) (g : Kp (· = r) W W') (ht : Tb T r names W') : LtW N aZ aB K P m T r names w l W' := by
  obtain ⟨es', clock', h3, h4⟩ := h.p.tb.hr
  have nK : K ≠ r := fun e => by
    have := h.k
    rw [e, h3] at this
    cases this
  exact ⟨(g.block K (Array.getElem?_eq_some_iff.1 h.k).1 nK).trans h.k, h.p.kept g ht, h.hk.trans (g.mono fun k hk => Or.inr hk)⟩
end
/-- The world while the new page is made and stored. -/
structure LtI (N : Nat) (aZ aB : Addr) (K P m T r : Nat) (names : List (Int × Num)) (c : Int) (x : Num) (w : World) (b9 : Nat) (B4 B7 B10 : Bool) (u55 : Value) (W : World) : Prop where
  hx : W.heap[b9]? = some (.cells (numC x) 82 (0, 0))
  hk : Kp (fun k => k = K ∨ k = r) w W
  hN : N ≤ K
  k : B10 = false → W.heap[K]? = some (.cells (bkC P 1) 73 (0, 0))
  o : B10 = true → B4 = true ∧ B7 = true
  p : B7 = false → Pw N aZ aB P m T r names W
  q : B7 = true → ∃ P' m' T' r', u55 = .pointer (some ⟨P', 0, none⟩) ∧ Pw N aZ aB P' m' T' r' (putN names c x) W ∧ w.heap.size ≤ P' ∧ w.heap.size ≤ m' ∧ w.heap.size ≤ T' ∧ w.heap.size ≤ r' ∧ (B10 = true → W.heap[K]? = some (.cells (bkC P' 1) 73 (0, 0)))
section
variable {N : Nat} {aZ aB : Addr} {K P m T r : Nat} {names : List (Int × Num)} {c : Int} {x : Num} {w : World} {b9 : Nat} {B4 B7 B10 : Bool} {u55 : Value} {W W' : World}
theorem LtI.four (h : LtI N aZ aB K P m T r names c x w b9 B4 B7 B10 u55 W) (n10 : B10 = false) : LtI N aZ aB K P m T r names c x w b9 true B7 B10 u55 W :=
  ⟨h.hx, h.hk, h.hN, h.k, fun e => (by rw [n10] at e; cases e), h.p, h.q⟩
theorem LtI.called {P' m' T' r' : Nat} (h : LtI N aZ aB K P m T r names c x w b9 B4 B7 B10 u55 W) (n10 : B10 = false) (hall4 : B4 = true) (hp : Pw N aZ aB P' m' T' r' (putN names c x) W') (g : Below W.heap.size W W') (l1 : W.heap.size ≤ P') (l2 : W.heap.size ≤ m') (l3 : W.heap.size ≤ T') (l4 : W.heap.size ≤ r') :
    LtI N aZ aB K P m T r names c x w b9 B4 true B10 (.pointer (some ⟨P', 0, none⟩)) W' := by
  have hs := h.hk.size
  exact ⟨(g.block _ (Array.getElem?_eq_some_iff.1 h.hx).1).trans h.hx, h.hk.below g, h.hN, fun e => (g.block _ (Array.getElem?_eq_some_iff.1 (h.k e)).1).trans (h.k e), fun e => (by rw [n10] at e; cases e), fun e => (by cases e), fun _ => ⟨P', m', T', r', rfl, hp, by omega, by omega, by omega, by omega, fun e => by rw [n10] at e; cases e⟩⟩
theorem LtI.stored {P' : Nat} (h : LtI N aZ aB K P m T r names c x w b9 B4 B7 B10 u55 W) (n10 : B10 = false) (h4 : B4 = true) (h7 : B7 = true) (q1 : u55 = .pointer (some ⟨P', 0, none⟩)) :
    LtI N aZ aB K P m T r names c x w b9 B4 B7 true u55 (W.setCell ⟨K, 2, none⟩ (.pointer (some ⟨P', 0, none⟩))) := by
  have hK := h.k n10
  have nb : b9 ≠ K := fun e => by have := h.hx; rw [e, hK] at this; simp at this
  refine ⟨(Below.heap_setCell _ _ _ _ nb).trans h.hx, h.hk.setCell (p := ⟨K, 2, none⟩) (Or.inl (Or.inl rfl)) _, h.hN, fun e => (by cases e), fun _ => ⟨h4, h7⟩, fun e => (by rw [h7] at e; cases e), fun _ => ?_⟩
  obtain ⟨P'', m', T', r', a1, a2, a3, a4, a5, a6, _⟩ := h.q h7
  rw [q1] at a1
  simp only [Value.pointer.injEq, Option.some.injEq, Addr.mk.injEq, and_true] at a1
  subst a1
  exact ⟨P', m', T', r', q1, a2.setK hK h.hN _ _, a3, a4, a5, a6, fun _ => by simp [World.setCell, Array.getElem?_modify, hK]⟩
end
/-- Let, by itself: the error, its place, the names behind it. -/
def letR (names : List (Int × Num)) (nm s : ByteArray) : Int × Int × List (Int × Num) :=
  if okN nm = false then (3, 0, names)
  else match valS names s with
    | .err q p => (q, p, names)
    | .ok x => if ((envOf names (nmP nm)).isSome || decide (names.length < 8)) = true then (0, 0, putN names (nmP nm) x) else (7, 0, names)
set_option maxHeartbeats 8000000 in
set_option maxRecDepth 100000 in
theorem blet_any (N : Nat) (aZ aB : Addr) (K P m T r : Nat) (names : List (Int × Num)) (nm s : ByteArray) (w : World) (h : Bk N aZ aB K P m T r names w) (hU : U8T w) (hN : N ≤ K) (hl : names.length ≤ 1000) :
    Calls Tryz.prog 23 #[.pointer (some ⟨K, 0, none⟩), .string nm, .string s] w fun e w' => e = .returned (.tuple #[.int .i64 (letR names nm s).1, .int .i64 (letR names nm s).2.1]) ∧ ∃ P' m' T' r', Bk N aZ aB K P' m' T' r' (letR names nm s).2.2 w' ∧ Kp (fun k => k = K ∨ k = r) w w' ∧
      (P' = P ∨ w.heap.size ≤ P') ∧ (m' = m ∨ w.heap.size ≤ m') ∧ (T' = T ∨ w.heap.size ≤ T') ∧ (r' = r ∨ w.heap.size ≤ r') := by
  have C1 := hidMk (onename_any nm w hU)
  have h0 : LtW N aZ aB K P m T r names w 0 w := ⟨h.hK, h.pw, Kp.refl _ _⟩
  have CN := hidMk (fun W hW => pnumber_any N aZ aB P m T r names s W hW)
  have CH := hidMk (fun c W hW => hasRoom_any N aZ aB P m T r names c W hW hl)
  have HVS := hidMk (valS_cases names s h.pw.nm)
  have HX := hidMk (fun x (hv : valS names s = .ok x) => valS_num h.pw.nm hv)
  have HNS := hidMk (nm_same nm)
  clear hU h
  go_enter_defers Tryz.func23, Tryz.ntmps23
  go_wp2_with fail
  refine C1.out.mono ?_
  rintro e w1 ⟨rfl, hb1⟩
  have H1 := hidMk (h0.below hb1)
  clear h0 hb1 C1
  rcases HNS.out with ⟨hok, hnm, hn1, hn2⟩ | ⟨hok, hnm⟩
  · rw [hok]
    generalize hcc : (Lib.decodeGo nm).1 = c at *
    have HR : Hid (letR names nm s = match valS names s with
        | .err q p => (q, p, names)
        | .ok x => if ((envOf names (c : Int)).isSome || decide (names.length < 8)) = true then (0, 0, putN names (c : Int) x) else (7, 0, names)) := by
      show _ = _
      unfold letR
      rw [if_neg (by rw [hok]; decide), hnm]
    clear hok hnm hn1 hn2 hcc HNS
    obtain ⟨k0, k2, f0, _⟩ := bk_cells H1.out.k
    go_wp2_with fail
    refine (lock_free muLib ⟨K, 0, none⟩ w1 k0 f0).mono ?_
    rintro e w2 ⟨rfl, hw2⟩
    have h2 := H1.out.lock hN 1
    rw [← hw2] at h2
    clear hw2 H1 k0 k2 f0
    obtain ⟨k0, k2, f0, _⟩ := bk_cells h2.k
    have H2 := hidMk h2
    clear h2
    go_wp2_with fail
    refine (CN.out _ H2.out.p).mono ?_
    rintro e w3 ⟨rfl, ht3, hk3⟩
    have H3 := hidMk (H2.out.kept hk3 ht3)
    clear ht3 hk3 H2 k0 k2 f0 CN
    rcases HVS.out with ⟨x, hv⟩ | ⟨q, p, hv, hq⟩
    · have hx := HX.out x hv
      have HR2 : Hid (letR names nm s = if ((envOf names (c : Int)).isSome || decide (names.length < 8)) = true then (0, 0, putN names (c : Int) x) else (7, 0, names)) := by
        show _ = _
        rw [HR.out, hv]
      rw [hv]
      have e1 : ansV (.ok x) = .tuple #[.agg (numC x), .int .i64 0, .int .i64 0] := rfl
      rw [e1]
      have CW := hidMk (fun W hW => with_any N aZ aB P m T r names (c : Int) x W hW hx)
      clear hv hx e1 HX HVS HR
      go_upto_region 7 with fail
      have h4 := H3.out.below (fr_below w3 (.cells (numC x) 82))
      have hx4 := heap_alloc_new w3 (.cells (numC x) 82)
      generalize w3.alloc _ = W4 at *
      generalize w3.heap.size = b9 at *
      obtain ⟨k0, k2, f0, _⟩ := bk_cells h4.k
      have H4 := hidMk h4
      have HX4 := hidMk hx4
      clear h4 hx4 H3
      go_wp2_with fail
      refine (CH.out (c : Int) _ H4.out.p).mono ?_
      rintro e w5 ⟨rfl, hb5⟩
      have H5 := hidMk (H4.out.below hb5)
      have HX5 := hidMk ((hb5.block _ (Array.getElem?_eq_some_iff.1 HX4.out).1).trans HX4.out)
      clear k0 k2 f0 H4 HX4 hb5 CH
      cases hroom : ((envOf names (c : Int)).isSome || decide (names.length < 8)) with
      | true =>
        have HR : Hid (letR names nm s = (0, 0, putN names (c : Int) x)) := by
          show _ = _
          rw [HR2.out, if_pos hroom]
        clear HR2 hroom
        have HI0 : Hid (LtI N aZ aB K P m T r names (c : Nat) x w b9 false false false undef w5.drew) := ⟨HX5.out, H5.out.hk.drew, hN, fun _ => H5.out.k, fun e => (by cases e), fun _ => H5.out.p.below ((Below.refl _ _).drew), fun e => by cases e⟩
        clear H5 HX5
        go_upto_region 11 with fail
        refine region_invD [{ target := .fn (.func 39) #[], args := #[.pointer (some ⟨K, 0, none⟩)] }] (nt := 58) _
          (fun j v => match j with
            | 0 => v = .pointer (some ⟨K, 0, none⟩)
            | 1 => v = .pointer (some ⟨K, 0, none⟩)
            | 2 => v = .pointer (some ⟨K, 0, none⟩)
            | 3 => v = .pointer (some ⟨K, 2, none⟩)
            | 4 => v = .pointer (some ⟨P, 0, none⟩)
            | 5 => v = .int .i32 (c : Nat)
            | 6 => v = .agg (numC x)
            | 8 => v = .pointer (some ⟨K, 0, none⟩)
            | 9 => v = .pointer (some ⟨K, 2, none⟩)
            | _ => True)
          (fun b u w' => Hid (LtI N aZ aB K P m T r names (c : Nat) x w b9 (b 4) (b 7) (b 10) (u 55) w'))
          (act_ofD rfl rfl) (by kernel_rfl) (by kernel_rfl) (by kernel_rfl) HI0.out ?_ ?_
        · intro i o b u w' ho hbi hall hU hW KK hK
          have hA : actD [{ target := .fn (.func 39) #[], args := #[.pointer (some ⟨K, 0, none⟩)] }] 58 u = ⟨#[u 0, u 1, u 2, u 3, u 4, u 5, u 6, u 7, u 8, u 9, u 10, u 11, u 12, u 13, u 14, u 15, u 16, u 17, u 18, u 19, u 20, u 21, u 22, u 23, u 24, u 25, u 26, u 27, u 28, u 29, u 30, u 31, u 32, u 33, u 34, u 35, u 36, u 37, u 38, u 39, u 40, u 41, u 42, u 43, u 44, u 45, u 46, u 47, u 48, u 49, u 50, u 51, u 52, u 53, u 54, u 55, u 56, u 57], [{ target := .fn (.func 39) #[], args := #[.pointer (some ⟨K, 0, none⟩)] }]⟩ := rfl
          rw [hA] at hK ⊢
          have c0 : u 0 = .pointer (some ⟨K, 0, none⟩) := hU.oldB 0 (by kernel_rfl)
          have c8 : u 8 = .int .i32 (c : Nat) := hU.oldB 8 (by kernel_rfl)
          have c10 : u 10 = .pointer (some ⟨b9, 0, none⟩) := hU.oldB 10 (by kernel_rfl)
          have got := hU.got
          have HW := hW
          have HKK := hidMk hK
          clear hU hA hK hW
          obtain ⟨x0, x1, x2, x3⟩ := four_cells HW.out.hx
          rcases i with _ | _ | _ | _ | _ | _ | _ | _ | _ | _ | _ | i
          · cases ho
            go_simp
            exact HKK.out _ _ _ (by rw [c0, c8, c10]; rfl) (fun _ => rfl) HW.out
          · cases ho
            go_simp
            exact HKK.out _ _ _ (by rw [c0, c8, c10]; rfl) (fun _ => rfl) HW.out
          · cases ho
            have g49 : u 49 = .pointer (some ⟨K, 0, none⟩) := got 1 49 rfl (hall ⟨1, .data⟩ (by simp) rfl)
            go_simp
            exact HKK.out _ _ _ (by rw [c0, c8, c10, g49]; rfl) (fun _ => rfl) HW.out
          · cases ho
            have g50 : u 50 = .pointer (some ⟨K, 0, none⟩) := got 2 50 rfl (hall ⟨2, .data⟩ (by simp) rfl)
            go_simp
            exact HKK.out _ _ _ (by rw [c0, c8, c10, g50]; rfl) (fun _ => rfl) HW.out
          · cases ho
            have g51 : u 51 = .pointer (some ⟨K, 2, none⟩) := got 3 51 rfl (hall ⟨3, .data⟩ (by simp) rfl)
            have n10 : b 10 = false := by
              cases h : b 10 with
              | false => rfl
              | true => rw [(HW.out.o h).1] at hbi; cases hbi
            have hKc := HW.out.k n10
            obtain ⟨k0, k2, _, _⟩ := bk_cells hKc
            have N10 := hidMk n10
            clear n10
            go_simp
            exact HKK.out _ _ _ (by rw [c0, c8, c10, g51]; rfl) (fun _ => rfl) (HW.out.four N10.out)
          · cases ho
            go_simp
            exact HKK.out _ _ _ (by rw [c0, c8, c10]; rfl) (fun _ => rfl) HW.out
          · cases ho
            go_simp
            exact HKK.out _ _ _ (by rw [c0, c8, c10]; rfl) (fun _ => rfl) HW.out
          · cases ho
            have g52 : u 52 = .pointer (some ⟨P, 0, none⟩) := got 4 52 rfl (hall ⟨4, .data⟩ (by simp) rfl)
            have g53 : u 53 = .int .i32 (c : Nat) := got 5 53 rfl (hall ⟨5, .data⟩ (by simp) rfl)
            have g54 : u 54 = .agg (numC x) := got 6 54 rfl (hall ⟨6, .data⟩ (by simp) rfl)
            have n10 : b 10 = false := by
              cases h : b 10 with
              | false => rfl
              | true => rw [(HW.out.o h).2] at hbi; cases hbi
            have N10 := hidMk n10
            clear n10
            have HPW := hidMk (HW.out.p hbi)
            go_simp
            refine (CW.out _ HPW.out).mono ?_
            rintro e w9 ⟨P', m', T', r', rfl, hpw9, hb9, l1, l2, l3, l4⟩
            exact HKK.out _ _ _ (by rw [c0, c8, c10, g52, g53, g54]; rfl) (fun _ => trivial) (HW.out.called N10.out (hall4 := hall ⟨4, .data⟩ (by simp) rfl) hpw9 hb9 l1 l2 l3 l4)
          · cases ho
            have g48 : u 48 = .pointer (some ⟨K, 0, none⟩) := got 0 48 rfl (hall ⟨0, .data⟩ (by simp) rfl)
            go_simp
            exact HKK.out _ _ _ (by rw [c0, c8, c10, g48]; rfl) (fun _ => rfl) HW.out
          · cases ho
            have g56 : u 56 = .pointer (some ⟨K, 0, none⟩) := got 8 56 rfl (hall ⟨8, .data⟩ (by simp) rfl)
            go_simp
            exact HKK.out _ _ _ (by rw [c0, c8, c10, g56]; rfl) (fun _ => rfl) HW.out
          · cases ho
            have g57 : u 57 = .pointer (some ⟨K, 2, none⟩) := got 9 57 rfl (hall ⟨9, .data⟩ (by simp) rfl)
            have Y7 : Hid (b 7 = true) := hall ⟨7, .data⟩ (by simp) rfl
            have Y4 : Hid (b 4 = true) := hall ⟨4, .phase⟩ (by simp) rfl
            obtain ⟨P', m', T', r', q1, q2, q3, q4, q5, q6, _⟩ := HW.out.q Y7.out
            have hKc := HW.out.k hbi
            obtain ⟨k0, k2, f0, f2⟩ := bk_cells hKc
            have NB := hidMk hbi
            go_simp
            exact HKK.out undef _ _ (by rw [c0, c8, c10, g57, q1]; rfl) (fun h => by cases h) (HW.out.stored NB.out Y4.out Y7.out q1)
          · simp at ho
        · intro b u w' hall hU hW
          obtain ⟨P', m', T', r', q1, q2, q3, q4, q5, q6, q7⟩ := hW.out.q (hall 7 (by decide))
          have hK := q7 (hall 10 (by decide))
          have HKP := hidMk hW.out.hk
          obtain ⟨u0, _, uf, _⟩ := bk_cells hK
          have hA : actD [{ target := .fn (.func 39) #[], args := #[.pointer (some ⟨K, 0, none⟩)] }] 58 u = ⟨#[u 0, u 1, u 2, u 3, u 4, u 5, u 6, u 7, u 8, u 9, u 10, u 11, u 12, u 13, u 14, u 15, u 16, u 17, u 18, u 19, u 20, u 21, u 22, u 23, u 24, u 25, u 26, u 27, u 28, u 29, u 30, u 31, u 32, u 33, u 34, u 35, u 36, u 37, u 38, u 39, u 40, u 41, u 42, u 43, u 44, u 45, u 46, u 47, u 48, u 49, u 50, u 51, u 52, u 53, u 54, u 55, u 56, u 57], [{ target := .fn (.func 39) #[], args := #[.pointer (some ⟨K, 0, none⟩)] }]⟩ := rfl
          have e0 : u 0 = .pointer (some ⟨K, 0, none⟩) := hU.oldB 0 (by kernel_rfl)
          have e1 : u 1 = .string nm := hU.oldB 1 (by kernel_rfl)
          have e2 : u 2 = .string s := hU.oldB 2 (by kernel_rfl)
          have e3 : u 3 = undef := hU.oldB 3 (by kernel_rfl)
          have e4 : u 4 = undef := hU.oldB 4 (by kernel_rfl)
          have e5 : u 5 = undef := hU.oldB 5 (by kernel_rfl)
          have e6 : u 6 = .int .i64 0 := hU.oldB 6 (by kernel_rfl)
          have e7 : u 7 = .int .i64 0 := hU.oldB 7 (by kernel_rfl)
          have e8 : u 8 = .int .i32 (c : Nat) := hU.oldB 8 (by kernel_rfl)
          have e9 : u 9 = .bool true := hU.oldB 9 (by kernel_rfl)
          have e10 : u 10 = .pointer (some ⟨b9, 0, none⟩) := hU.oldB 10 (by kernel_rfl)
          have e11 : u 11 = .int .i64 0 := hU.oldB 11 (by kernel_rfl)
          have e12 : u 12 = .int .i64 0 := hU.oldB 12 (by kernel_rfl)
          have e13 : u 13 = .tuple #[.int .i32 (c : Nat), .bool true] := hU.oldB 13 (by kernel_rfl)
          have e14 : u 14 = .string nm := hU.oldB 14 (by kernel_rfl)
          have e15 : u 15 = .tuple #[.int .i32 (c : Nat), .bool true] := hU.oldB 15 (by kernel_rfl)
          have e16 : u 16 = .int .i32 (c : Nat) := hU.oldB 16 (by kernel_rfl)
          have e17 : u 17 = .bool true := hU.oldB 17 (by kernel_rfl)
          have e18 : u 18 = .bool true := hU.oldB 18 (by kernel_rfl)
          have e19 : u 19 = .bool false := hU.oldB 19 (by kernel_rfl)
          have e20 : u 20 = .pointer (some ⟨K, 0, none⟩) := hU.oldB 20 (by kernel_rfl)
          have e21 : u 21 = .pointer (some ⟨K, 0, none⟩) := hU.oldB 21 (by kernel_rfl)
          have e22 : u 22 = .pointer (some ⟨K, 0, none⟩) := hU.oldB 22 (by kernel_rfl)
          have e23 : u 23 = .tuple #[] := hU.oldB 23 (by kernel_rfl)
          have e24 : u 24 = .pointer (some ⟨K, 0, none⟩) := hU.oldB 24 (by kernel_rfl)
          have e25 : u 25 = .pointer (some ⟨K, 0, none⟩) := hU.oldB 25 (by kernel_rfl)
          have e26 : u 26 = .pointer (some ⟨K, 0, none⟩) := hU.oldB 26 (by kernel_rfl)
          have e27 : u 27 = .tuple #[.agg (numC x), .int .i64 0, .int .i64 0] := hU.oldB 27 (by kernel_rfl)
          have e28 : u 28 = .pointer (some ⟨K, 0, none⟩) := hU.oldB 28 (by kernel_rfl)
          have e29 : u 29 = .pointer (some ⟨K, 0, none⟩) := hU.oldB 29 (by kernel_rfl)
          have e30 : u 30 = .pointer (some ⟨K, 2, none⟩) := hU.oldB 30 (by kernel_rfl)
          have e31 : u 31 = .pointer (some ⟨P, 0, none⟩) := hU.oldB 31 (by kernel_rfl)
          have e32 : u 32 = .string s := hU.oldB 32 (by kernel_rfl)
          have e33 : u 33 = .tuple #[.agg (numC x), .int .i64 0, .int .i64 0] := hU.oldB 33 (by kernel_rfl)
          have e34 : u 34 = .agg (numC x) := hU.oldB 34 (by kernel_rfl)
          have e35 : u 35 = .int .i64 0 := hU.oldB 35 (by kernel_rfl)
          have e36 : u 36 = .int .i64 0 := hU.oldB 36 (by kernel_rfl)
          have e37 : u 37 = .int .i64 0 := hU.oldB 37 (by kernel_rfl)
          have e38 : u 38 = .bool false := hU.oldB 38 (by kernel_rfl)
          have e39 : u 39 = undef := hU.oldB 39 (by kernel_rfl)
          have e40 : u 40 = undef := hU.oldB 40 (by kernel_rfl)
          have e41 : u 41 = .pointer (some ⟨K, 0, none⟩) := hU.oldB 41 (by kernel_rfl)
          have e42 : u 42 = .pointer (some ⟨K, 0, none⟩) := hU.oldB 42 (by kernel_rfl)
          have e43 : u 43 = .pointer (some ⟨K, 2, none⟩) := hU.oldB 43 (by kernel_rfl)
          have e44 : u 44 = .pointer (some ⟨P, 0, none⟩) := hU.oldB 44 (by kernel_rfl)
          have e45 : u 45 = .int .i32 (c : Nat) := hU.oldB 45 (by kernel_rfl)
          have e46 : u 46 = .bool true := hU.oldB 46 (by kernel_rfl)
          have e47 : u 47 = .bool false := hU.oldB 47 (by kernel_rfl)
          rw [hA, e0, e1, e2, e3, e4, e5, e6, e7, e8, e9, e10, e11, e12, e13, e14, e15, e16, e17, e18, e19, e20, e21, e22, e23, e24, e25, e26, e27, e28, e29, e30, e31, e32, e33, e34, e35, e36, e37, e38, e39, e40, e41, e42, e43, e44, e45, e46, e47]
          clear hA e0 e1 e2 e3 e4 e5 e6 e7 e8 e9 e10 e11 e12 e13 e14 e15 e16 e17 e18 e19 e20 e21 e22 e23 e24 e25 e26 e27 e28 e29 e30 e31 e32 e33 e34 e35 e36 e37 e38 e39 e40 e41 e42 e43 e44 e45 e46 e47
          have H6 : Hid (LtW N aZ aB K P' m' T' r' (putN names (c : Int) x) w' 1 w') := ⟨hK, q2, Kp.refl _ _⟩
          have HQ := hidMk (And.intro q3 (And.intro q4 (And.intro q5 q6)))
          clear hU hW hall q1 q2 q3 q4 q5 q6 q7 hK
          go_wp2_with fail
          refine leaves_cons (f := 39) (args := #[.pointer (some ⟨K, 0, none⟩)]) (by simp) (by simp [go_sem]) ?_
          refine (unlock_deferred muLib ⟨K, 0, none⟩ .returning _ u0 uf).mono ?_
          rintro e u' w'' ⟨rfl, rfl, hw⟩
          have h9 := H6.out.lock hN 0
          have hk9 := HKP.out.setCell (p := ⟨K, 0, none⟩) (Or.inl (Or.inl rfl)) (.int .i32 0)
          rw [← hw] at h9 hk9
          refine ⟨.tuple #[.int .i64 0, .int .i64 0], by simp [results, Tryz.results23, go_sem], ?_⟩
          rw [HR.out]
          exact ⟨rfl, P', m', T', r', ⟨h9.k, h9.p⟩, hk9, Or.inr HQ.out.1, Or.inr HQ.out.2.1, Or.inr HQ.out.2.2.1, Or.inr HQ.out.2.2.2⟩
      | false =>
        have HR : Hid (letR names nm s = (7, 0, names)) := by
          show _ = _
          rw [HR2.out, if_neg (by rw [hroom]; decide)]
        clear HR2 hroom
        obtain ⟨u0, _, uf, _⟩ := bk_cells H5.out.k
        go_wp2_with fail
        refine leaves_cons (f := 39) (args := #[.pointer (some ⟨K, 0, none⟩)]) (by simp) (by simp [go_sem]) ?_
        refine (unlock_deferred muLib ⟨K, 0, none⟩ .returning _ u0 uf).mono ?_
        rintro e u' w'' ⟨rfl, rfl, hw⟩
        have h9 := H5.out.lock hN 0
        rw [← hw] at h9
        refine ⟨.tuple #[.int .i64 7, .int .i64 0], by simp [results, Tryz.results23, go_sem], ?_⟩
        rw [HR.out]
        exact ⟨rfl, P, m, T, r, ⟨h9.k, h9.p⟩, h9.hk, Or.inl rfl, Or.inl rfl, Or.inl rfl, Or.inl rfl⟩
    · have HR2 : Hid (letR names nm s = (q, (p : Int), names)) := by
        show _ = _
        rw [HR.out, hv]
      rw [hv]
      have e1 : ansV (.err q p) = .tuple #[.agg (numC ⟨⟨0, 0⟩, ⟨0, 0⟩⟩), .int .i64 q, .int .i64 p] := rfl
      rw [e1]
      have hne : (q != 0) = true := by simpa using hq
      clear hv hq e1 HX HVS HR CH
      have HR := HR2
      clear HR2
      go_upto_region 7 with fail
      have H4 := hidMk (H3.out.below (fr_below w3 (.cells (numC ⟨⟨0, 0⟩, ⟨0, 0⟩⟩) 82)))
      generalize w3.alloc _ = W4 at *
      clear H3
      obtain ⟨u0, _, uf, _⟩ := bk_cells H4.out.k
      go_wp2_with fail
      refine leaves_cons (f := 39) (args := #[.pointer (some ⟨K, 0, none⟩)]) (by simp) (by simp [go_sem]) ?_
      refine (unlock_deferred muLib ⟨K, 0, none⟩ .returning _ u0 uf).mono ?_
      rintro e u' w'' ⟨rfl, rfl, hw⟩
      have h9 := H4.out.lock hN 0
      rw [← hw] at h9
      refine ⟨.tuple #[.int .i64 q, .int .i64 p], by simp [results, Tryz.results23, go_sem], ?_⟩
      rw [HR.out]
      exact ⟨rfl, P, m, T, r, ⟨h9.k, h9.p⟩, h9.hk, Or.inl rfl, Or.inl rfl, Or.inl rfl, Or.inl rfl⟩
  · rw [hok]
    have HR : Hid (letR names nm s = (3, 0, names)) := if_pos hok
    clear hok hnm HNS
    go_wp2_with fail
    refine ⟨.tuple #[.int .i64 3, .int .i64 0], by simp [results, Tryz.results23, go_sem], ?_⟩
    rw [HR.out]
    exact ⟨rfl, P, m, T, r, ⟨H1.out.k, H1.out.p⟩, H1.out.hk, Or.inl rfl, Or.inl rfl, Or.inl rfl, Or.inl rfl⟩
end Go.Proofs.YtodabmkcihafhaaGreatDoor

/- Kept: the pure side. -/
namespace Go.Proofs.YtodabmkcihafhaaGreatDoor
open Go.RowKit
set_option linter.unusedVariables false
theorem encN_size (n : Nat) (hn : 945 ≤ n ∧ n ≤ 969) : (Utf8.encode (n : Int)).size = 2 := by
  have : ∀ k < 25, (Utf8.encode ((945 + k : Nat) : Int)).size = 2 := by decide +kernel
  have h := this (n - 945) (by omega)
  rwa [show 945 + (n - 945) = n by omega] at h
theorem name_one (n : Nat) (hn : 945 ≤ n ∧ n ≤ 969) : good (Utf8.encode (n : Int)) = true ∧ treeT (Utf8.encode (n : Int)) = .leaf n 0 := by
  have kn : known n = true := by unfold known; simp; omega
  have hsz := encN_size n hn
  generalize hS : Utf8.encode (n : Int) = S at *
  have s1 : Sits S 0 (Utf8.encode (n : Int)) := by rw [hS]; exact Sits.all S
  have i1 : (isDig (n : Int) || isFrac (n : Int)) = false := by unfold isDig isFrac; simp; omega
  have i2 : isNm (n : Int) = true := by unfold isNm; simp; omega
  have h3 : PT 3 e0 (toks S 0 false) = ⟨true, .leaf n 0, toks S S.size false⟩ := by
    rw [toks_sits kn (by omega) s1 false, Nat.zero_add, PT_3, if_neg (by rw [i1]; decide), if_pos (Or.inr i2), hS]
  have r1 : PT 2 e0 (toks S 0 false) = ⟨true, .leaf n 0, [⟨-1, S.size, false⟩]⟩ := by
    rw [toks_sits kn (by omega) s1 false, Nat.zero_add] at h3 ⊢
    rw [PT_2, if_neg (show ¬ ((n : Int) = 8722) by omega), h3, if_pos rfl, at_end S _ rfl, PT6_end]
  exact good_of (by omega) rfl (PT01_end r1).2
theorem nm_enc (n : Nat) (hn : 945 ≤ n ∧ n ≤ 969) : okN (Utf8.encode (n : Int)) = true ∧ nmP (Utf8.encode (n : Int)) = n := by
  have : ∀ k < 25, okN (Utf8.encode ((945 + k : Nat) : Int)) = true ∧ nmP (Utf8.encode ((945 + k : Nat) : Int)) = ((945 + k : Nat) : Int) := by decide +kernel
  have h := this (n - 945) (by omega)
  rwa [show 945 + (n - 945) = n by omega] at h
theorem val_name (names : List (Int × Num)) (n : Nat) (hn : 945 ≤ n ∧ n ≤ 969) : valS names (Utf8.encode (n : Int)) = match envOf names n with | some x => .ok x | none => .err 3 0 := by
  obtain ⟨g, t⟩ := name_one n hn
  have hs := encN_size n hn
  unfold valS
  rw [if_neg (by omega), if_pos g, t]
  unfold valT missT
  have h1 : ¬ ((n : Int) = 105) := by omega
  cases he : envOf names n with
  | none => simp [h1]
  | some x => simp [h1, he, evT, leafN]
theorem miss_more (env : Env) : ∀ e, missT (envOf []) e = none → missT env e = none ∧ evT env e = evT (envOf []) e := by
  intro e
  induction e with
  | num l p => intro _; exact ⟨rfl, rfl⟩
  | leaf c p =>
    intro h
    unfold missT at h
    split at h
    · rename_i hc
      have hc : c = 105 := by simpa [envOf] using hc
      subst hc
      refine ⟨by simp [missT], by simp [evT, leafN]⟩
    · cases h
  | un c p e ih =>
    intro h
    obtain ⟨h1, h2⟩ := ih h
    refine ⟨h1, ?_⟩
    unfold evT
    rw [h2]
  | bin c p l r ihl ihr =>
    intro h
    unfold missT at h
    cases hl : missT (envOf []) l with
    | some q => rw [hl] at h; cases h
    | none =>
      rw [hl] at h
      obtain ⟨a1, a2⟩ := ihl hl
      obtain ⟨b1, b2⟩ := ihr h
      refine ⟨by unfold missT; rw [a1]; exact b1, ?_⟩
      unfold evT
      rw [a2, b2]
theorem val_more {s : ByteArray} {x : Num} (h : valS [] s = .ok x) (names : List (Int × Num)) : s.size ≤ 120 ∧ good s = true ∧ missT (envOf names) (treeT s) = none ∧ evT (envOf names) (treeT s) = .ok x ∧ valS names s = .ok x := by
  unfold valS at h
  by_cases h1 : 120 < s.size
  · rw [if_pos h1] at h; cases h
  · rw [if_neg h1] at h
    by_cases h2 : good s = true
    · rw [if_pos h2] at h
      unfold valT at h
      cases hm : missT (envOf []) (treeT s) with
      | some p => rw [hm] at h; cases h
      | none =>
        rw [hm] at h
        obtain ⟨a1, a2⟩ := miss_more (envOf names) _ hm
        refine ⟨by omega, h2, a1, a2.trans h, ?_⟩
        unfold valS valT
        rw [if_neg h1, if_pos h2, a1]
        exact a2.trans h
    · rw [if_neg h2] at h; cases h
/-- Two answers that tell alike, places aside. -/
def Near2 (a b : Ans) : Prop := (∃ z, a = .ok z ∧ b = .ok z) ∨ ∃ q p p', a = .err q p ∧ b = .err q p'
theorem kept_join {s t : ByteArray} {x : Num} {n : Nat} (hn : 945 ≤ n ∧ n ≤ 969) (hv : valS [] s = .ok x) (hx : x.Ok) (ht : t.size ≤ 120) (gt : good t = true) (hsz : s.size + t.size + 10 ≤ 120)
    {T1 T2 : ByteArray} (h1 : T1 = inBr s ++ Utf8.encode ((43 : Nat) : Int) ++ inBr t) (h2 : T2 = Utf8.encode (n : Int) ++ Utf8.encode ((43 : Nat) : Int) ++ inBr t) : Near2 (valS [((n : Int), x)] T1) (valS [((n : Int), x)] T2) := by
  have e1 : (Utf8.encode ((43 : Nat) : Int)).size = 1 := by decide
  have e2 := encN_size n hn
  have z1 : T1.size ≤ 120 := by rw [h1, ByteArray.size_append, ByteArray.size_append, inBr_size, inBr_size, e1]; omega
  have z2 : T2.size ≤ 120 := by rw [h2, ByteArray.size_append, ByteArray.size_append, inBr_size, e1, e2]; omega
  obtain ⟨_, gs, ms, es, _⟩ := val_more hv [((n : Int), x)]
  obtain ⟨g1, p1, q1, r1, t1⟩ := joined_tree s t 43 (Or.inl rfl) gs gt T1 h1 z1
  obtain ⟨g2, p2, r2, t2⟩ := name_tree n hn t gt T2 h2 z2
  have hE : envOf [((n : Int), x)] (n : Int) = some x := by simp [envOf]
  have w1 : valS [((n : Int), x)] T1 = valT (envOf [((n : Int), x)]) (treeT T1) := by unfold valS; rw [if_neg (by omega), if_pos g1]
  have w2 : valS [((n : Int), x)] T2 = valT (envOf [((n : Int), x)]) (treeT T2) := by unfold valS; rw [if_neg (by omega), if_pos g2]
  rw [w1, w2, t1, t2]
  clear w1 w2
  generalize hen : envOf [((n : Int), x)] = env at *
  have hok : ∀ c y, env c = some y → y.Ok := fun c y hy => by
    rw [← hen] at hy
    by_cases hc : (n : Int) = c
    · simp [envOf, hc] at hy; subst hy; exact hx
    · simp [envOf, hc] at hy
  have m1 : missT env ((treeT s).shift q1) = none := by rw [missT_shift, ms]; rfl
  have v1 : evT env ((treeT s).shift q1) = .ok x := (evT_shift env q1 (treeT s)).1 x es
  have m2 : missT env (.leaf (n : Int) 0) = none := by unfold missT; rw [if_pos (Or.inr (by rw [hE]; rfl))]
  have v2 : evT env (.leaf (n : Int) 0) = .ok x := by
    unfold evT leafN
    simp [hE]
    omega
  unfold valT
  have u1 : missT env (.bin 43 p1 ((treeT s).shift q1) ((treeT t).shift r1)) = (missT env (treeT t)).map (· + r1) := by
    show (match missT env ((treeT s).shift q1) with | some p => some p | none => missT env ((treeT t).shift r1)) = _
    rw [m1, missT_shift]
  have u2 : missT env (.bin 43 p2 (.leaf (n : Int) 0) ((treeT t).shift r2)) = (missT env (treeT t)).map (· + r2) := by
    show (match missT env (.leaf (n : Int) 0) with | some p => some p | none => missT env ((treeT t).shift r2)) = _
    rw [m2, missT_shift]
  show Near2 (match missT env (.bin 43 p1 ((treeT s).shift q1) ((treeT t).shift r1)) with | some p => .err 3 p | none => _) (match missT env (.bin 43 p2 (.leaf (n : Int) 0) ((treeT t).shift r2)) with | some p => .err 3 p | none => _)
  rw [u1, u2]
  cases hm : missT env (treeT t) with
  | some p => exact Or.inr ⟨3, _, _, rfl, rfl⟩
  | none =>
    show Near2 (evT env (.bin 43 p1 ((treeT s).shift q1) ((treeT t).shift r1))) (evT env (.bin 43 p2 (.leaf (n : Int) 0) ((treeT t).shift r2)))
    unfold evT
    rw [v1, v2]
    have hs1 := evT_shift env r1 (treeT t)
    have hs2 := evT_shift env r2 (treeT t)
    cases hy : evT env (treeT t) with
    | ok y =>
      rw [hs1.1 y hy, hs2.1 y hy]
      show Near2 ((opP 43 x y).at p1) ((opP 43 x y).at p2)
      cases ho : opP 43 x y with
      | ok z => exact Or.inl ⟨z, rfl, rfl⟩
      | err q => exact Or.inr ⟨q, _, _, rfl, rfl⟩
    | err q p =>
      obtain ⟨a, ha⟩ := hs1.2 q p hy
      obtain ⟨b, hb⟩ := hs2.2 q p hy
      rw [ha, hb]
      exact Or.inr ⟨q, _, _, rfl, rfl⟩
end Go.Proofs.YtodabmkcihafhaaGreatDoor

/- Let leaves few names. -/
namespace Go.Proofs.YtodabmkcihafhaaGreatDoor
open Go.RowKit
set_option linter.unusedVariables false
theorem let_len {names : List (Int × Num)} (nm s : ByteArray) (h : names.length ≤ 1000) : (letR names nm s).2.2.length ≤ 1000 := by
  unfold letR
  split
  · exact h
  · split
    · exact h
    · split
      · rename_i x _ hr
        have hp : ∀ (l : List (Int × Num)) (c : Int) (x : Num), (envOf l c).isSome = true → (putN l c x).length = l.length := by
          intro l c x
          induction l with
          | nil => intro h; simp [envOf] at h
          | cons p r ih =>
            intro h
            unfold putN
            by_cases hc : p.1 = c
            · rw [if_pos hc]; simp
            · rw [if_neg hc]
              have : (envOf r c).isSome = true := by simpa [envOf, hc] using h
              simp [ih this]
        have hq : ∀ (l : List (Int × Num)) (c : Int) (x : Num), (putN l c x).length ≤ l.length + 1 := by
          intro l c x
          induction l with
          | nil => simp [putN]
          | cons p r ih =>
            unfold putN
            split
            · simp
            · simpa using ih
        simp only [Bool.or_eq_true, decide_eq_true_eq] at hr
        rcases hr with hr | hr
        · simp only; rw [hp _ _ _ hr]; exact h
        · have := hq names (nmP nm) x
          simp only
          omega
      · exact h
end Go.Proofs.YtodabmkcihafhaaGreatDoor

/- Plain: the one form, read again. -/
namespace Go.Proofs.YtodabmkcihafhaaGreatDoor
set_option linter.unusedVariables false

def NoNum (c : Int) : Prop := isDig c = false ∧ isFrac c = false
theorem jn_no {t : Tok} {r : List Tok} (h : NoNum t.c) : isDig (jn (t :: r)) = false ∧ isFrac (jn (t :: r)) = false := by
  rcases jn_cases (t :: r) with q | q <;> rw [q]
  · exact h
  · exact ⟨rfl, rfl⟩
theorem jn_tk {c : Int} {p : Nat} {r : List Tok} : jn (⟨c, p, false⟩ :: r) = c := rfl
theorem Tk.nil_inv {U : List Tok} (h : Tk [] U) : U = [] := by
  unfold Tk at h
  simpa using h
theorem digs_read : ∀ (n : Nat) (ds : List Int) (U : List Tok) (X : List Tok), ds.length ≤ n → (∀ c ∈ ds, isDig c = true) → Tk ds U → (ds.length < n → isDig (jn X) = false) → digs n (U ++ X) = (ds, X) := by
  intro n
  induction n with
  | zero =>
    intro ds U X h1 h2 h3 h4
    cases ds with
    | nil =>
      obtain rfl := h3.nil_inv
      rfl
    | cons d r => simp at h1
  | succ n ih =>
    intro ds U X h1 h2 h3 h4
    cases ds with
    | nil =>
      obtain rfl := h3.nil_inv
      have := h4 (by simp)
      simp only [List.nil_append, digs, this]
      rfl
    | cons d r =>
      obtain ⟨p, V, rfl, hV⟩ := h3.cons_inv
      have hd := h2 d (by simp)
      have i := ih r V X (by simpa using h1) (fun c hc => h2 c (by simp [hc])) hV (fun h => h4 (by simpa using h))
      simp only [List.cons_append, digs, jn_tk, hd, if_true, List.tail_cons, i]
theorem frac_dig {c : Int} (h : isFrac c = true) : isDig c = false := by
  unfold isFrac at h
  unfold isDig
  simp at h ⊢
  omega
theorem nume_read {l : List Int} (hl : NumeOk l) {U : List Tok} (hU : Tk l U) {t : Tok} {r : List Tok} (ht : NoNum t.c) : ∃ c p V, U = ⟨c, p, false⟩ :: V ∧ (isDig c || isFrac c) = true ∧ numT (U ++ t :: r) = (l, t :: r) := by
  have jx := jn_no (r := r) ht
  rcases hl with ⟨c, rfl, hc⟩ | ⟨d, ds, fr, rfl, h1, h2, h3, h4, h5⟩
  · obtain ⟨p, V, rfl, hV⟩ := hU.cons_inv
    obtain rfl := hV.nil_inv
    refine ⟨c, p, [], rfl, by rw [hc]; simp, ?_⟩
    show numT (⟨c, p, false⟩ :: t :: r) = _
    unfold numT
    have e1 : hd (⟨c, p, false⟩ :: t :: r) = c := rfl
    rw [e1, if_pos hc]
    rfl
  · obtain ⟨p, V, rfl, hV⟩ := hU.cons_inv
    obtain ⟨W, F, rfl, hW, hF⟩ := hV.append_inv
    have hnf : isFrac d = false := by
      unfold isDig at h1
      unfold isFrac
      simp at h1 ⊢
      omega
    refine ⟨d, p, W ++ F, rfl, by rw [h1]; rfl, ?_⟩
    have ef : fracT (F ++ t :: r) = (fr, t :: r) := by
      rcases h5 with rfl | ⟨c, rfl, hc⟩
      · obtain rfl := hF.nil_inv
        unfold fracT
        rw [List.nil_append, jx.2]
        rfl
      · obtain ⟨q, V, rfl, hV2⟩ := hF.cons_inv
        obtain rfl := hV2.nil_inv
        show fracT (⟨c, q, false⟩ :: t :: r) = _
        unfold fracT
        rw [jn_tk, if_pos hc]
        rfl
    have ej : isDig (jn (F ++ t :: r)) = false := by
      rcases h5 with rfl | ⟨c, rfl, hc⟩
      · obtain rfl := hF.nil_inv
        exact jx.1
      · obtain ⟨q, V, rfl, hV⟩ := hF.cons_inv
        exact frac_dig hc
    have e1 : (⟨d, p, false⟩ :: (W ++ F)) ++ t :: r = ⟨d, p, false⟩ :: (W ++ (F ++ t :: r)) := by simp
    rw [e1]
    unfold numT
    have e2 : hd (⟨d, p, false⟩ :: (W ++ (F ++ t :: r))) = d := rfl
    rw [e2, if_neg (by rw [hnf]; decide)]
    by_cases h0 : d = 48
    · have e3 := h2 h0
      subst e3
      obtain rfl := hW.nil_inv
      simp only [h0, if_true, List.nil_append, List.tail_cons, ef]
      rfl
    · have e3 := digs_read 2 ds W (F ++ t :: r) h3 h4 hW (fun _ => ej)
      simp only [h0, if_false, List.tail_cons, e3, ef]
      rfl

/-- What the signs of a tree's form are read as, those behind them being 't :: r'. -/
structure Rd (e : Ex) (U : List Tok) (x : Ex) (t : Tok) (r : List Tok) : Prop where
  three : 3 ≤ rankP (opE e) → ∃ e', e'.plain = e.plain ∧ PT 2 x (U ++ t :: r) = PT 6 e' (t :: r)
  two : 2 ≤ rankP (opE e) → isMk t.c = false → ∃ e', e'.plain = e.plain ∧ PT 2 x (U ++ t :: r) = ⟨true, e', t :: r⟩
  one : 1 ≤ rankP (opE e) → isMk t.c = false → ∃ e', e'.plain = e.plain ∧ PT 1 x (U ++ t :: r) = PT 5 e' (t :: r)
  zero : isMk t.c = false → inRow 1 t.c = false → ∃ e', e'.plain = e.plain ∧ PT 0 x (U ++ t :: r) = PT 4 e' (t :: r)
theorem six_stop {e : Ex} {t : Tok} {r : List Tok} (h : isMk t.c = false) : PT 6 e (t :: r) = ⟨true, e, t :: r⟩ := by rw [PT_6, if_neg (by rw [h]; decide)]
theorem five_stop {e : Ex} {t : Tok} {r : List Tok} (h : inRow 1 t.c = false) : PT 5 e (t :: r) = ⟨true, e, t :: r⟩ := by rw [PT_5, if_neg (by rw [h]; decide)]
theorem four_stop {e : Ex} {t : Tok} {r : List Tok} (h : inRow 0 t.c = false) : PT 4 e (t :: r) = ⟨true, e, t :: r⟩ := by rw [PT_4, if_neg (by rw [h]; decide)]
theorem two_of_three {e : Ex} {U : List Tok} {x : Ex} {t : Tok} {r : List Tok} (h : ∃ e', e'.plain = e.plain ∧ PT 2 x (U ++ t :: r) = PT 6 e' (t :: r)) (hm : isMk t.c = false) : ∃ e', e'.plain = e.plain ∧ PT 2 x (U ++ t :: r) = ⟨true, e', t :: r⟩ := by
  obtain ⟨e', h1, h2⟩ := h
  exact ⟨e', h1, by rw [h2, six_stop hm]⟩
theorem one_of_two {e : Ex} {U : List Tok} {x : Ex} {t : Tok} {r : List Tok} (h : ∃ e', e'.plain = e.plain ∧ PT 2 x (U ++ t :: r) = ⟨true, e', t :: r⟩) : ∃ e', e'.plain = e.plain ∧ PT 1 x (U ++ t :: r) = PT 5 e' (t :: r) := by
  obtain ⟨e', h1, h2⟩ := h
  exact ⟨e', h1, by rw [PT_1, h2, if_pos rfl]⟩
theorem zero_of_one {e : Ex} {U : List Tok} {x : Ex} {t : Tok} {r : List Tok} (h : ∃ e', e'.plain = e.plain ∧ PT 1 x (U ++ t :: r) = PT 5 e' (t :: r)) (hr : inRow 1 t.c = false) : ∃ e', e'.plain = e.plain ∧ PT 0 x (U ++ t :: r) = PT 4 e' (t :: r) := by
  obtain ⟨e', h1, h2⟩ := h
  rw [five_stop hr] at h2
  exact ⟨e', h1, by rw [PT_0, h2, if_pos rfl]⟩
theorem Rd.of_three {e : Ex} {U : List Tok} {x : Ex} {t : Tok} {r : List Tok} (h : ∃ e', e'.plain = e.plain ∧ PT 2 x (U ++ t :: r) = PT 6 e' (t :: r)) : Rd e U x t r :=
  ⟨fun _ => h, fun _ hm => two_of_three h hm, fun _ hm => one_of_two (two_of_three h hm), fun hm hr => zero_of_one (one_of_two (two_of_three h hm)) hr⟩
theorem Rd.of_two {e : Ex} {U : List Tok} {x : Ex} {t : Tok} {r : List Tok} (hk : rankP (opE e) < 3) (h : isMk t.c = false → ∃ e', e'.plain = e.plain ∧ PT 2 x (U ++ t :: r) = ⟨true, e', t :: r⟩) : Rd e U x t r :=
  ⟨fun h3 => by omega, fun _ hm => h hm, fun _ hm => one_of_two (h hm), fun hm hr => zero_of_one (one_of_two (h hm)) hr⟩
theorem Rd.of_one {e : Ex} {U : List Tok} {x : Ex} {t : Tok} {r : List Tok} (hk : rankP (opE e) < 2) (h : isMk t.c = false → ∃ e', e'.plain = e.plain ∧ PT 1 x (U ++ t :: r) = PT 5 e' (t :: r)) : Rd e U x t r :=
  ⟨fun h3 => by omega, fun h2 _ => by omega, fun _ hm => h hm, fun hm hr => zero_of_one (h hm) hr⟩
theorem Rd.of_zero {e : Ex} {U : List Tok} {x : Ex} {t : Tok} {r : List Tok} (hk : rankP (opE e) < 1) (h : isMk t.c = false → inRow 1 t.c = false → ∃ e', e'.plain = e.plain ∧ PT 0 x (U ++ t :: r) = PT 4 e' (t :: r)) : Rd e U x t r :=
  ⟨fun h3 => by omega, fun h2 _ => by omega, fun h1 _ => by omega, h⟩
/-- In brackets. -/
theorem br_rd {e : Ex} (ih : ∀ U x t r, Tk (sgE e) U → NoNum t.c → Rd e U x t r) {U : List Tok} {x : Ex} {t : Tok} {r : List Tok} (hU : Tk (40 :: (sgE e ++ [41])) U) : ∃ e', e'.plain = e.plain ∧ PT 2 x (U ++ t :: r) = PT 6 e' (t :: r) := by
  obtain ⟨p, V, rfl, hV⟩ := hU.cons_inv
  obtain ⟨A, B, rfl, hA, hB⟩ := hV.append_inv
  obtain ⟨q, C, rfl, hC⟩ := hB.cons_inv
  obtain rfl := hC.nil_inv
  obtain ⟨e', h1, h2⟩ := (ih A x ⟨41, q, false⟩ (t :: r) hA ⟨rfl, rfl⟩).zero rfl rfl
  rw [four_stop rfl] at h2
  refine ⟨e', h1, ?_⟩
  have e1 : ⟨40, p, false⟩ :: (A ++ [⟨41, q, false⟩]) ++ t :: r = (⟨40, p, false⟩ : Tok) :: (A ++ ⟨41, q, false⟩ :: t :: r) := by simp
  have e3 : PT 3 x (⟨40, p, false⟩ :: (A ++ ⟨41, q, false⟩ :: t :: r)) = ⟨true, e', t :: r⟩ := by
    rw [PT_3, if_neg (show ¬ (isDig 40 || isFrac 40) = true by decide), if_neg (show ¬ ((40 : Int) = 105 ∨ isNm 40 = true) by decide), if_pos rfl, h2, if_pos rfl, if_pos (show hd (⟨41, q, false⟩ :: t :: r) = 41 from rfl)]
    rfl
  rw [e1, PT_2, if_neg (show ¬ ((40 : Int) = 8722) by decide), e3, if_pos rfl]
theorem brk_three {e : Ex} (ih : ∀ U x t r, Tk (sgE e) U → NoNum t.c → Rd e U x t r) {U : List Tok} {x : Ex} {t : Tok} {r : List Tok} (ht : NoNum t.c) (hU : Tk (brkL (rankP (opE e)) 3 (sgE e)) U) : ∃ e', e'.plain = e.plain ∧ PT 2 x (U ++ t :: r) = PT 6 e' (t :: r) := by
  unfold brkL at hU
  split at hU
  · exact br_rd ih hU
  · exact (ih U x t r hU ht).three (by omega)
theorem brk_two {e : Ex} (ih : ∀ U x t r, Tk (sgE e) U → NoNum t.c → Rd e U x t r) {U : List Tok} {x : Ex} {t : Tok} {r : List Tok} (ht : NoNum t.c) (hm : isMk t.c = false) (hU : Tk (brkL (rankP (opE e)) 2 (sgE e)) U) : ∃ e', e'.plain = e.plain ∧ PT 2 x (U ++ t :: r) = ⟨true, e', t :: r⟩ := by
  unfold brkL at hU
  split at hU
  · exact two_of_three (br_rd ih hU) hm
  · exact (ih U x t r hU ht).two (by omega) hm
theorem brk_one {e : Ex} (ih : ∀ U x t r, Tk (sgE e) U → NoNum t.c → Rd e U x t r) {U : List Tok} {x : Ex} {t : Tok} {r : List Tok} (ht : NoNum t.c) (hm : isMk t.c = false) (hU : Tk (brkL (rankP (opE e)) 1 (sgE e)) U) : ∃ e', e'.plain = e.plain ∧ PT 1 x (U ++ t :: r) = PT 5 e' (t :: r) := by
  unfold brkL at hU
  split at hU
  · exact one_of_two (two_of_three (br_rd ih hU) hm)
  · exact (ih U x t r hU ht).one (by omega) hm
theorem form_rd : ∀ e : Ex, ExOk e → ∀ U x t r, Tk (sgE e) U → NoNum t.c → Rd e U x t r := by
  intro e
  induction e with
  | num l p =>
    intro hok U x t r hU ht
    obtain ⟨c, q, V, rfl, h1, h2⟩ := nume_read (r := r) hok hU ht
    refine Rd.of_three ⟨.num l q, rfl, ?_⟩
    have e3 : PT 3 x (⟨c, q, false⟩ :: V ++ t :: r) = ⟨true, .num l q, t :: r⟩ := by
      rw [List.cons_append, PT_3, if_pos h1]
      rw [List.cons_append] at h2
      rw [h2]
    have hc : ¬ c = 8722 := by
      intro hc
      rw [hc] at h1
      revert h1
      decide
    rw [List.cons_append] at e3 ⊢
    rw [PT_2, if_neg hc, e3, if_pos rfl]
  | leaf c p =>
    intro hok U x t r hU ht
    obtain ⟨q, V, rfl, hV⟩ := hU.cons_inv
    obtain rfl := hV.nil_inv
    have hc := leaf_cases hok
    have h1 : (isDig c || isFrac c) = false := by unfold isDig isFrac; simp; omega
    refine Rd.of_three ⟨.leaf c q, rfl, ?_⟩
    show PT 2 x (⟨c, q, false⟩ :: t :: r) = _
    have e3 : PT 3 x (⟨c, q, false⟩ :: t :: r) = ⟨true, .leaf c q, t :: r⟩ := by
      rw [PT_3, if_neg (by rw [h1]; decide), if_pos (show c = 105 ∨ isNm c = true from hok)]
    rw [PT_2, if_neg (show ¬ c = 8722 by omega), e3, if_pos rfl]
  | un c p e ih =>
    intro hok U x t r hU ht
    have i := ih hok.2
    simp only [sgE] at hU
    rcases un_cases hok.1 with rfl | hc
    · rw [if_pos rfl] at hU
      obtain ⟨q, V, rfl, hV⟩ := hU.cons_inv
      refine Rd.of_two (show rankP 110 < 3 by decide) (fun hm => ?_)
      obtain ⟨e', h1, h2⟩ := brk_two (x := x) (r := r) i ht hm hV
      refine ⟨.un 110 q e', by simp only [Ex.plain, h1], ?_⟩
      rw [List.cons_append, PT_2, if_pos rfl, h2, if_pos rfl]
    · rw [if_neg (by omega)] at hU
      obtain ⟨A, B, rfl, hA, hB⟩ := hU.append_inv
      obtain ⟨q, C, rfl, hC⟩ := hB.cons_inv
      obtain rfl := hC.nil_inv
      have hn : NoNum c := by rcases hc with rfl | rfl <;> exact ⟨rfl, rfl⟩
      have hk : isMk c = true := by rcases hc with rfl | rfl <;> rfl
      obtain ⟨e', h1, h2⟩ := brk_three (x := x) (t := ⟨c, q, false⟩) (r := t :: r) i hn hA
      refine Rd.of_three ⟨.un c q e', by simp only [Ex.plain, h1], ?_⟩
      have e1 : A ++ [⟨c, q, false⟩] ++ t :: r = A ++ (⟨c, q, false⟩ :: t :: r) := by simp
      rw [e1, h2, PT_6, if_pos hk]
  | bin c p l rr ihl ihr =>
    intro hok U x t r hU ht
    have il := ihl hok.2.1
    have ir := ihr hok.2.2
    have hc := bin_cases hok.1
    have hn : NoNum c := by rcases hc with rfl | rfl | rfl | rfl <;> exact ⟨rfl, rfl⟩
    have hk : isMk c = false := by rcases hc with rfl | rfl | rfl | rfl <;> rfl
    simp only [sgE] at hU
    by_cases h0 : c = 43 ∨ c = 8722
    · rw [if_pos h0] at hU
      obtain ⟨A, B, rfl, hA, hB⟩ := hU.append_inv
      obtain ⟨q, C, rfl, hC⟩ := hB.cons_inv
      have hA' : Tk (sgE l) A := by
        unfold brkL at hA
        rw [if_neg (by omega)] at hA
        exact hA
      have hr1 : inRow 1 c = false := by rcases h0 with rfl | rfl <;> rfl
      have hr0 : inRow 0 c = true := by rcases h0 with rfl | rfl <;> rfl
      refine Rd.of_zero (by show rankP c < 1; unfold rankP; rw [if_pos h0]; decide) (fun hm hr => ?_)
      obtain ⟨e1, h1, h2⟩ := (il A x ⟨c, q, false⟩ (C ++ t :: r) hA' hn).zero hk hr1
      obtain ⟨e2, h3, h4⟩ := brk_one (x := e1) (r := r) ir ht hm hC
      refine ⟨.bin c q e1 e2, by simp only [Ex.plain, h1, h3], ?_⟩
      have e3 : A ++ ⟨c, q, false⟩ :: C ++ t :: r = A ++ (⟨c, q, false⟩ :: (C ++ t :: r)) := by simp
      rw [five_stop hr] at h4
      rw [e3, h2, PT_4, if_pos hr0, h4, if_pos rfl]
    · rw [if_neg h0] at hU
      obtain ⟨A, B, rfl, hA, hB⟩ := hU.append_inv
      obtain ⟨q, C, rfl, hC⟩ := hB.cons_inv
      have h0' : c = 215 ∨ c = 247 := by omega
      have hr1 : inRow 1 c = true := by rcases h0' with rfl | rfl <;> rfl
      refine Rd.of_one (by show rankP c < 2; unfold rankP; rw [if_neg h0, if_pos h0']; decide) (fun hm => ?_)
      obtain ⟨e1, h1, h2⟩ := brk_one (x := x) (t := ⟨c, q, false⟩) (r := C ++ t :: r) il hn hk hA
      obtain ⟨e2, h3, h4⟩ := brk_two (x := e1) (r := r) ir ht hm hC
      refine ⟨.bin c q e1 e2, by simp only [Ex.plain, h1, h3], ?_⟩
      have e3 : A ++ ⟨c, q, false⟩ :: C ++ t :: r = A ++ (⟨c, q, false⟩ :: (C ++ t :: r)) := by simp
      rw [e3, h2, PT_5, if_pos hr1, h4, if_pos rfl]
/-- The one form is an expression, of the same tree. -/
theorem form_tree (e : Ex) (h : ExOk e) (hs : (fmE e).size ≤ 120) : good (fmE e) = true ∧ (treeT (fmE e)).plain = e.plain := by
  have hS : Sits (fmE e) 0 (encAll (sgE e)) := by rw [← fmE_enc]; exact Sits.all _
  obtain ⟨U, h1, h2⟩ := toks_written (sgE e) (fmE e) 0 (sg_all e h) hS
  rw [at_end (fmE e) (0 + (encAll (sgE e)).size) (by rw [fmE_enc]; omega)] at h2
  obtain ⟨e', h3, h4⟩ := (form_rd e h U e0 ⟨-1, (fmE e).size, false⟩ [] h1 ⟨rfl, rfl⟩).zero rfl rfl
  rw [← h2, four_stop rfl] at h4
  have g := good_of hs rfl h4
  exact ⟨g.1, by rw [g.2, h3]⟩
end Go.Proofs.YtodabmkcihafhaaGreatDoor

import Derived.BigQuiet
import Derived.Test.YtodabmkcihafhaaGreatDoorB4
import Derived.Test.YtodabmkcihafhaaGreatDoorB23
import Derived.Test.YtodabmkcihafhaaGreatDoorB11

/- A region that draws its order, where calls are deferred already. -/
namespace Go.Proofs.YtodabmkcihafhaaGreatDoor
open Go.RowKit
set_option linter.unusedVariables false
def actD (ds : List Deferred) (nt : Nat) (u : Nat → Value) : Act := ⟨((List.range nt).map u).toArray, ds⟩
theorem actD_put (ds : List Deferred) (nt : Nat) (u : Nat → Value) (s : Nat) (v : Value) (hs : s < nt) : (actD ds nt u).put (some s) v = actD ds nt (fun k => if k = s then v else u k) := by
  unfold actD Act.put
  simp only
  congr 1
  apply Array.ext_getElem?
  intro i
  rw [Array.getElem?_setIfInBounds]
  simp only [List.size_toArray, List.length_map, List.length_range, List.getElem?_toArray, List.getElem?_map]
  by_cases h : s = i
  · subst h
    simp [hs]
  · rw [if_neg h]
    by_cases hi : i < nt
    · simp [List.getElem?_range hi, Ne.symm h]
    · rw [List.getElem?_eq_none (by simpa using hi)]; rfl

section
variable {P : Program} {ops : Array Oper} {Q : Exit → Act → World → Prop}
theorem region_invD {id nt : Nat} (ds : List Deferred) {a0 : Act} {w : World} (u0 : Nat → Value) (R : Nat → Value → Prop) (WI : (Nat → Bool) → (Nat → Value) → World → Prop) (ha : a0 = actD ds nt u0) (hm : P.follows .mixedOrders = true) (hback : backB ops = true) (hslots : slotsB ops nt = true) (h0 : WI (fun _ => false) u0 { w with drawn := w.drawn + 1 })
    (hstep : ∀ (i : Nat) (o : Oper) (b : Nat → Bool) (u : Nat → Value) (w' : World), ops[i]? = some o → b i = false → (∀ e ∈ o.after, Region.binds .any e = true → b e.on = true) → Slots ops R u0 b u → WI b u w' →
      ∀ K : Act → World → Prop, (∀ v w'' A, (actD ds nt u).put o.dst v = A → (o.dst.isSome = true → R i v) → WI (upB b i) (upV u o.dst v) w'' → K A w'') → if Region.wanted o (yielded ops (actD ds nt u).tmps) = true then Oper.wp P o (actD ds nt u) w' K Q else K ((actD ds nt u).put o.dst undef) w')
    (hend : ∀ (b : Nat → Bool) (u : Nat → Value) (w' : World), (∀ k, k < ops.size → b k = true) → Slots ops R u0 b u → WI b u w' → Q .normal (actD ds nt u) w') :
    (Code.region id ops true).wp P Q a0 w := by
  subst ha
  refine wp_region_any hm (wpAny_inv (I := fun l a w' => ∃ (b : Nat → Bool) (u : Nat → Value), l = ((List.range ops.size).map b).toArray ∧ a = actD ds nt u ∧ Slots ops R u0 b u ∧ WI b u w') ?_ ?_ _ _ _ _ ?_ ?_)
  · rintro l a w' i o ⟨b, u, rfl, rfl, hU, hW⟩ ho hl hall K hK
    have hi : i < ops.size := (Array.getElem?_eq_some_iff.1 ho).1
    have gd : ∀ k d, k < ops.size → (((List.range ops.size).map b).toArray).getD k d = b k := by
      intro k d hk
      rw [Array.getD_eq_getD_getElem?]
      simp [List.getElem?_range hk]
    have hbi : b i = false := by rw [← gd i true hi]; exact hl
    refine hstep i o b u w' ho hbi (fun e he hb => ?_) hU hW K (fun v w'' A hA hv hW'' => hA ▸ hK _ _ ?_)
    · have h1 := hall e he hb
      rcases Nat.lt_or_ge e.on ops.size with h2 | h2
      · rw [gd _ _ h2] at h1; exact h1
      · rw [Array.getD_eq_getD_getElem?, Array.getElem?_eq_none (by simpa using h2)] at h1; cases h1
    · have hset : (((List.range ops.size).map b).toArray).setIfInBounds i true = ((List.range ops.size).map (upB b i)).toArray := by
        apply Array.ext_getElem?
        intro k
        rw [Array.getElem?_setIfInBounds]
        simp only [List.size_toArray, List.length_map, List.length_range, List.getElem?_toArray, List.getElem?_map]
        by_cases h : i = k
        · subst h
          simp [hi, upB]
        · rw [if_neg h]
          by_cases hk : k < ops.size
          · simp [List.getElem?_range hk, upB, Ne.symm h]
          · rw [List.getElem?_eq_none (by simpa using hk)]; rfl
      have hdst : (ops[i]?).bind Oper.dst = o.dst := by rw [ho]; rfl
      cases hd : o.dst with
      | none =>
        rw [hd] at hW''
        refine ⟨upB b i, u, hset, rfl, ⟨fun k s hk hb => ?_, hU.old⟩, hW''⟩
        unfold upB at hb
        split at hb
        · rename_i e; subst e; rw [hdst, hd] at hk; cases hk
        · exact hU.got k s hk hb
      | some s =>
        rw [hd] at hW''
        have hs : (ops[i]?).bind Oper.dst = some s := by rw [hdst, hd]
        have hv' := hv (by rw [hd]; rfl)
        refine ⟨upB b i, upV u (some s) v, hset, actD_put ds nt u s v (slots_lt hslots hs), ⟨fun k t hk hb => ?_, fun t ht => ?_⟩, hW''⟩
        · show R k (if t = s then v else u t)
          by_cases e : t = s
          · subst e
            have := slots_inj hslots hk hs
            subst this
            rw [if_pos rfl]
            exact hv'
          · rw [if_neg e]
            unfold upB at hb
            split at hb
            · rename_i e2; subst e2; rw [hs] at hk; injection hk with hk; exact absurd hk.symm e
            · exact hU.got k t hk hb
        · show (if t = s then v else u t) = u0 t
          have e : t ≠ s := fun e => ht i (by rw [e]; exact hs)
          rw [if_neg e]
          exact hU.old t ht
  · rintro l a w' ⟨b, u, rfl, rfl, hU, hW⟩ hr
    refine hend b u w' (fun k hk => ?_) hU hW
    have := all_listed hback (by simp) hr k hk
    rw [Array.getD_eq_getD_getElem?] at this
    simpa [List.getElem?_range hk] using this
  · refine ⟨fun _ => false, u0, ?_, rfl, ⟨fun k s _ h => (by cases h), fun _ _ => rfl⟩, h0⟩
    apply Array.ext_getElem?
    intro k
    simp only [List.getElem?_toArray, List.getElem?_map]
    by_cases hk : k < ops.size
    · simp [hk]
    · rw [List.getElem?_eq_none (by simpa using hk), Array.getElem?_eq_none (by simpa using hk)]; rfl
  · simp
end
theorem act_ofD {a : Act} {nt : Nat} {ds : List Deferred} (hs : a.tmps.size = nt) (hd : a.defers = ds) : a = actD ds nt (fun s => a.tmps.getD s undef) := by
  obtain ⟨t, d⟩ := a
  simp only at hs hd
  subst hd hs
  unfold actD
  congr 1
  apply Array.ext_getElem?
  intro i
  simp only [List.getElem?_toArray, List.getElem?_map]
  by_cases h : i < t.size
  · simp [Array.getD_eq_getD_getElem?, h]
  · rw [Array.getElem?_eq_none (by omega), List.getElem?_eq_none (by simpa using h)]; rfl
end Go.Proofs.YtodabmkcihafhaaGreatDoor

/- Let: the program's. -/
namespace Go.Proofs.YtodabmkcihafhaaGreatDoor
open Go.RowKit Go.MuLone
set_option linter.unusedVariables false
theorem U8T.kept {N : Nat} {aZ aB : Addr} {w w' : World} (h : U8T w) (hS : Sen N aZ aB w) (g : ∀ j, j < N → w'.heap[j]? = w.heap[j]?) : U8T w' := by
  have hl := hS.lt.1
  refine ⟨fun c hc => ?_, fun i hi => ?_⟩
  · rw [World.cell?_of_block (w := w) (g _ (Nat.lt_of_lt_of_le (show 0 < 5 by decide) hl))]
    exact h.1 c hc
  · rw [World.cell?_of_block (w := w) (g _ (Nat.lt_of_lt_of_le (show 1 < 5 by decide) hl)), World.cell?_of_block (w := w) (g _ (Nat.lt_of_lt_of_le (show 1 < 5 by decide) hl))]
    exact h.2 i hi
/-- Let's world. -/
structure LtW (N : Nat) (aZ aB : Addr) (K P m T r : Nat) (names : List (Int × Num)) (w : World) (l : Int) (W : World) : Prop where
  k : W.heap[K]? = some (.cells (bkC P l) 73 (0, 0))
  p : Pw N aZ aB P m T r names W
  hk : Kp (fun k => k = K ∨ k = r) w W
section
variable {N : Nat} {aZ aB : Addr} {K P m T r : Nat} {names : List (Int × Num)} {w W W' : World} {l : Int}
theorem LtW.below (h : LtW N aZ aB K P m T r names w l W) (g : Below W.heap.size W W') : LtW N aZ aB K P m T r names w l W' :=
  ⟨(g.block _ (Array.getElem?_eq_some_iff.1 h.k).1).trans h.k, h.p.below g, h.hk.below g⟩
/-- A page lies beside a book: a store into the book leaves it. -/
theorem Pw.setK {v : Array Value} (h : Pw N aZ aB P m T r names W) (hk : W.heap[K]? = some (.cells v 73 (0, 0))) (hN : N ≤ K) (i : Nat) (u : Value) : Pw N aZ aB P m T r names (W.setCell ⟨K, i, none⟩ u) := by
  obtain ⟨es, clock, h1, h2⟩ := h.pg.hm
  obtain ⟨es', clock', h3, h4⟩ := h.tb.hr
  have nP : P ≠ K := fun e => by have := h.hP; rw [e, hk] at this; simp at this
  have nm : m ≠ K := fun e => by rw [e, hk] at h1; cases h1
  have nr : r ≠ K := fun e => by rw [e, hk] at h3; cases h3
  have nT : T ≠ K := fun e => by have := h.tb.ht; rw [e, hk] at this; simp at this
  have hP' := (Below.heap_setCell W ⟨K, i, none⟩ u P nP).trans h.hP
  refine ⟨⟨h.pg.hS.kept fun j hj => Below.heap_setCell _ _ _ _ (by simp; omega), by simpa using h.pg.hN, ?_, es, clock, (Below.heap_setCell _ _ _ _ nm).trans h1, h2⟩, hP', ⟨(Below.heap_setCell _ _ _ _ nT).trans h.tb.ht, es', clock', (Below.heap_setCell _ _ _ _ nr).trans h3, h4⟩, h.mr, h.rN, h.nm⟩
  simp [World.cell?, hP']
theorem LtW.lock (h : LtW N aZ aB K P m T r names w l W) (hN : N ≤ K) (l' : Int) : LtW N aZ aB K P m T r names w l' (W.setCell ⟨K, 0, none⟩ (.int .i32 l')) :=
  ⟨bk_set h.k l', h.p.setK h.k hN _ _, h.hk.setCell (p := ⟨K, 0, none⟩) (Or.inl (Or.inl rfl)) _⟩
theorem LtW.kept (h : LtW N aZ aB K P m T r names w l W) (g : Kp (· = r) W W') (ht : Tb T r names W') : LtW N aZ aB K P m T r names w l W' := by
  obtain ⟨es', clock', h3, h4⟩ := h.p.tb.hr
  have nK : K ≠ r := fun e => by
    have := h.k
    rw [e, h3] at this
    cases this
  exact ⟨(g.block K (Array.getElem?_eq_some_iff.1 h.k).1 nK).trans h.k, h.p.kept g ht, h.hk.trans (g.mono fun k hk => Or.inr hk)⟩
end
/-- The world while the new page is made and stored. -/
structure LtI (N : Nat) (aZ aB : Addr) (K P m T r : Nat) (names : List (Int × Num)) (c : Int) (x : Num) (w : World) (b9 : Nat) (B4 B7 B10 : Bool) (u55 : Value) (W : World) : Prop where
  hx : W.heap[b9]? = some (.cells (numC x) 82 (0, 0))
  hk : Kp (fun k => k = K ∨ k = r) w W
  hN : N ≤ K
  k : B10 = false → W.heap[K]? = some (.cells (bkC P 1) 73 (0, 0))
  o : B10 = true → B4 = true ∧ B7 = true
  p : B7 = false → Pw N aZ aB P m T r names W
  q : B7 = true → ∃ P' m' T' r', u55 = .pointer (some ⟨P', 0, none⟩) ∧ Pw N aZ aB P' m' T' r' (putN names c x) W ∧ w.heap.size ≤ P' ∧ w.heap.size ≤ m' ∧ w.heap.size ≤ T' ∧ w.heap.size ≤ r' ∧ (B10 = true → W.heap[K]? = some (.cells (bkC P' 1) 73 (0, 0)))
section
variable {N : Nat} {aZ aB : Addr} {K P m T r : Nat} {names : List (Int × Num)} {c : Int} {x : Num} {w : World} {b9 : Nat} {B4 B7 B10 : Bool} {u55 : Value} {W W' : World}
theorem LtI.four (h : LtI N aZ aB K P m T r names c x w b9 B4 B7 B10 u55 W) (n10 : B10 = false) : LtI N aZ aB K P m T r names c x w b9 true B7 B10 u55 W :=
  ⟨h.hx, h.hk, h.hN, h.k, fun e => (by rw [n10] at e; cases e), h.p, h.q⟩
theorem LtI.called {P' m' T' r' : Nat} (h : LtI N aZ aB K P m T r names c x w b9 B4 B7 B10 u55 W) (n10 : B10 = false) (hall4 : B4 = true) (hp : Pw N aZ aB P' m' T' r' (putN names c x) W') (g : Below W.heap.size W W') (l1 : W.heap.size ≤ P') (l2 : W.heap.size ≤ m') (l3 : W.heap.size ≤ T') (l4 : W.heap.size ≤ r') :
    LtI N aZ aB K P m T r names c x w b9 B4 true B10 (.pointer (some ⟨P', 0, none⟩)) W' := by
  have hs := h.hk.size
  exact ⟨(g.block _ (Array.getElem?_eq_some_iff.1 h.hx).1).trans h.hx, h.hk.below g, h.hN, fun e => (g.block _ (Array.getElem?_eq_some_iff.1 (h.k e)).1).trans (h.k e), fun e => (by rw [n10] at e; cases e), fun e => (by cases e), fun _ => ⟨P', m', T', r', rfl, hp, by omega, by omega, by omega, by omega, fun e => by rw [n10] at e; cases e⟩⟩
theorem LtI.stored {P' : Nat} (h : LtI N aZ aB K P m T r names c x w b9 B4 B7 B10 u55 W) (n10 : B10 = false) (h4 : B4 = true) (h7 : B7 = true) (q1 : u55 = .pointer (some ⟨P', 0, none⟩)) :
    LtI N aZ aB K P m T r names c x w b9 B4 B7 true u55 (W.setCell ⟨K, 2, none⟩ (.pointer (some ⟨P', 0, none⟩))) := by
  have hK := h.k n10
  have nb : b9 ≠ K := fun e => by have := h.hx; rw [e, hK] at this; simp at this
  refine ⟨(Below.heap_setCell _ _ _ _ nb).trans h.hx, h.hk.setCell (p := ⟨K, 2, none⟩) (Or.inl (Or.inl rfl)) _, h.hN, fun e => (by cases e), fun _ => ⟨h4, h7⟩, fun e => (by rw [h7] at e; cases e), fun _ => ?_⟩
  obtain ⟨P'', m', T', r', a1, a2, a3, a4, a5, a6, _⟩ := h.q h7
  rw [q1] at a1
  simp only [Value.pointer.injEq, Option.some.injEq, Addr.mk.injEq, and_true] at a1
  subst a1
  exact ⟨P', m', T', r', q1, a2.setK hK h.hN _ _, a3, a4, a5, a6, fun _ => by simp [World.setCell, Array.getElem?_modify, hK]⟩
end
/-- Let, by itself: the error, its place, the names behind it. -/
def letR (names : List (Int × Num)) (nm s : ByteArray) : Int × Int × List (Int × Num) :=
  if okN nm = false then (3, 0, names)
  else match valS names s with
    | .err q p => (q, p, names)
    | .ok x => if ((envOf names (nmP nm)).isSome || decide (names.length < 8)) = true then (0, 0, putN names (nmP nm) x) else (7, 0, names)
set_option maxHeartbeats 8000000 in
set_option maxRecDepth 100000 in
theorem blet_any (N : Nat) (aZ aB : Addr) (K P m T r : Nat) (names : List (Int × Num)) (nm s : ByteArray) (w : World) (h : Bk N aZ aB K P m T r names w) (hU : U8T w) (hN : N ≤ K) (hl : names.length ≤ 1000) :
    Calls Tryz.prog 23 #[.pointer (some ⟨K, 0, none⟩), .string nm, .string s] w fun e w' => e = .returned (.tuple #[.int .i64 (letR names nm s).1, .int .i64 (letR names nm s).2.1]) ∧ ∃ P' m' T' r', Bk N aZ aB K P' m' T' r' (letR names nm s).2.2 w' ∧ Kp (fun k => k = K ∨ k = r) w w' ∧
      (P' = P ∨ w.heap.size ≤ P') ∧ (m' = m ∨ w.heap.size ≤ m') ∧ (T' = T ∨ w.heap.size ≤ T') ∧ (r' = r ∨ w.heap.size ≤ r') := by
  have C1 := hidMk (onename_any nm w hU)
  have h0 : LtW N aZ aB K P m T r names w 0 w := ⟨h.hK, h.pw, Kp.refl _ _⟩
  have CN := hidMk (fun W hW => pnumber_any N aZ aB P m T r names s W hW)
  have CH := hidMk (fun c W hW => hasRoom_any N aZ aB P m T r names c W hW hl)
  have HVS := hidMk (valS_cases names s h.pw.nm)
  have HX := hidMk (fun x (hv : valS names s = .ok x) => valS_num h.pw.nm hv)
  have HNS := hidMk (nm_same nm)
  clear hU h
  go_enter_defers Tryz.func23, Tryz.ntmps23
  go_wp2_with fail
  refine C1.out.mono ?_
  rintro e w1 ⟨rfl, hb1⟩
  have H1 := hidMk (h0.below hb1)
  clear h0 hb1 C1
  rcases HNS.out with ⟨hok, hnm, hn1, hn2⟩ | ⟨hok, hnm⟩
  · rw [hok]
    generalize hcc : (Lib.decodeGo nm).1 = c at *
    have HR : Hid (letR names nm s = match valS names s with
        | .err q p => (q, p, names)
        | .ok x => if ((envOf names (c : Int)).isSome || decide (names.length < 8)) = true then (0, 0, putN names (c : Int) x) else (7, 0, names)) := by
      show _ = _
      unfold letR
      rw [if_neg (by rw [hok]; decide), hnm]
    clear hok hnm hn1 hn2 hcc HNS
    obtain ⟨k0, k2, f0, _⟩ := bk_cells H1.out.k
    go_wp2_with fail
    refine (lock_free muLib ⟨K, 0, none⟩ w1 k0 f0).mono ?_
    rintro e w2 ⟨rfl, hw2⟩
    have h2 := H1.out.lock hN 1
    rw [← hw2] at h2
    clear hw2 H1 k0 k2 f0
    obtain ⟨k0, k2, f0, _⟩ := bk_cells h2.k
    have H2 := hidMk h2
    clear h2
    go_wp2_with fail
    refine (CN.out _ H2.out.p).mono ?_
    rintro e w3 ⟨rfl, ht3, hk3⟩
    have H3 := hidMk (H2.out.kept hk3 ht3)
    clear ht3 hk3 H2 k0 k2 f0 CN
    rcases HVS.out with ⟨x, hv⟩ | ⟨q, p, hv, hq⟩
    · have hx := HX.out x hv
      have HR2 : Hid (letR names nm s = if ((envOf names (c : Int)).isSome || decide (names.length < 8)) = true then (0, 0, putN names (c : Int) x) else (7, 0, names)) := by
        show _ = _
        rw [HR.out, hv]
      rw [hv]
      have e1 : ansV (.ok x) = .tuple #[.agg (numC x), .int .i64 0, .int .i64 0] := rfl
      rw [e1]
      have CW := hidMk (fun W hW => with_any N aZ aB P m T r names (c : Int) x W hW hx)
      clear hv hx e1 HX HVS HR
      go_upto_region 7 with fail
      have h4 := H3.out.below (fr_below w3 (.cells (numC x) 82))
      have hx4 := heap_alloc_new w3 (.cells (numC x) 82)
      generalize w3.alloc _ = W4 at *
      generalize w3.heap.size = b9 at *
      obtain ⟨k0, k2, f0, _⟩ := bk_cells h4.k
      have H4 := hidMk h4
      have HX4 := hidMk hx4
      clear h4 hx4 H3
      go_wp2_with fail
      refine (CH.out (c : Int) _ H4.out.p).mono ?_
      rintro e w5 ⟨rfl, hb5⟩
      have H5 := hidMk (H4.out.below hb5)
      have HX5 := hidMk ((hb5.block _ (Array.getElem?_eq_some_iff.1 HX4.out).1).trans HX4.out)
      clear k0 k2 f0 H4 HX4 hb5 CH
      cases hroom : ((envOf names (c : Int)).isSome || decide (names.length < 8)) with
      | true =>
        have HR : Hid (letR names nm s = (0, 0, putN names (c : Int) x)) := by
          show _ = _
          rw [HR2.out, if_pos hroom]
        clear HR2 hroom
        have HI0 : Hid (LtI N aZ aB K P m T r names (c : Nat) x w b9 false false false undef w5.drew) := ⟨HX5.out, H5.out.hk.drew, hN, fun _ => H5.out.k, fun e => (by cases e), fun _ => H5.out.p.below ((Below.refl _ _).drew), fun e => by cases e⟩
        clear H5 HX5
        go_upto_region 11 with fail
        refine region_invD [{ target := .fn (.func 39) #[], args := #[.pointer (some ⟨K, 0, none⟩)] }] (nt := 58) _
          (fun j v => match j with
            | 0 => v = .pointer (some ⟨K, 0, none⟩)
            | 1 => v = .pointer (some ⟨K, 0, none⟩)
            | 2 => v = .pointer (some ⟨K, 0, none⟩)
            | 3 => v = .pointer (some ⟨K, 2, none⟩)
            | 4 => v = .pointer (some ⟨P, 0, none⟩)
            | 5 => v = .int .i32 (c : Nat)
            | 6 => v = .agg (numC x)
            | 8 => v = .pointer (some ⟨K, 0, none⟩)
            | 9 => v = .pointer (some ⟨K, 2, none⟩)
            | _ => True)
          (fun b u w' => Hid (LtI N aZ aB K P m T r names (c : Nat) x w b9 (b 4) (b 7) (b 10) (u 55) w'))
          (act_ofD rfl rfl) (by kernel_rfl) (by kernel_rfl) (by kernel_rfl) HI0.out ?_ ?_
        · intro i o b u w' ho hbi hall hU hW KK hK
          have hA : actD [{ target := .fn (.func 39) #[], args := #[.pointer (some ⟨K, 0, none⟩)] }] 58 u = ⟨#[u 0, u 1, u 2, u 3, u 4, u 5, u 6, u 7, u 8, u 9, u 10, u 11, u 12, u 13, u 14, u 15, u 16, u 17, u 18, u 19, u 20, u 21, u 22, u 23, u 24, u 25, u 26, u 27, u 28, u 29, u 30, u 31, u 32, u 33, u 34, u 35, u 36, u 37, u 38, u 39, u 40, u 41, u 42, u 43, u 44, u 45, u 46, u 47, u 48, u 49, u 50, u 51, u 52, u 53, u 54, u 55, u 56, u 57], [{ target := .fn (.func 39) #[], args := #[.pointer (some ⟨K, 0, none⟩)] }]⟩ := rfl
          rw [hA] at hK ⊢
          have c0 : u 0 = .pointer (some ⟨K, 0, none⟩) := hU.oldB 0 (by kernel_rfl)
          have c8 : u 8 = .int .i32 (c : Nat) := hU.oldB 8 (by kernel_rfl)
          have c10 : u 10 = .pointer (some ⟨b9, 0, none⟩) := hU.oldB 10 (by kernel_rfl)
          have got := hU.got
          have HW := hW
          have HKK := hidMk hK
          clear hU hA hK hW
          obtain ⟨x0, x1, x2, x3⟩ := four_cells HW.out.hx
          rcases i with _ | _ | _ | _ | _ | _ | _ | _ | _ | _ | _ | i
          · cases ho
            go_simp
            exact HKK.out _ _ _ (by rw [c0, c8, c10]; rfl) (fun _ => rfl) HW.out
          · cases ho
            go_simp
            exact HKK.out _ _ _ (by rw [c0, c8, c10]; rfl) (fun _ => rfl) HW.out
          · cases ho
            have g49 : u 49 = .pointer (some ⟨K, 0, none⟩) := got 1 49 rfl (hall ⟨1, .data⟩ (by simp) rfl)
            go_simp
            exact HKK.out _ _ _ (by rw [c0, c8, c10, g49]; rfl) (fun _ => rfl) HW.out
          · cases ho
            have g50 : u 50 = .pointer (some ⟨K, 0, none⟩) := got 2 50 rfl (hall ⟨2, .data⟩ (by simp) rfl)
            go_simp
            exact HKK.out _ _ _ (by rw [c0, c8, c10, g50]; rfl) (fun _ => rfl) HW.out
          · cases ho
            have g51 : u 51 = .pointer (some ⟨K, 2, none⟩) := got 3 51 rfl (hall ⟨3, .data⟩ (by simp) rfl)
            have n10 : b 10 = false := by
              cases h : b 10 with
              | false => rfl
              | true => rw [(HW.out.o h).1] at hbi; cases hbi
            have hKc := HW.out.k n10
            obtain ⟨k0, k2, _, _⟩ := bk_cells hKc
            have N10 := hidMk n10
            clear n10
            go_simp
            exact HKK.out _ _ _ (by rw [c0, c8, c10, g51]; rfl) (fun _ => rfl) (HW.out.four N10.out)
          · cases ho
            go_simp
            exact HKK.out _ _ _ (by rw [c0, c8, c10]; rfl) (fun _ => rfl) HW.out
          · cases ho
            go_simp
            exact HKK.out _ _ _ (by rw [c0, c8, c10]; rfl) (fun _ => rfl) HW.out
          · cases ho
            have g52 : u 52 = .pointer (some ⟨P, 0, none⟩) := got 4 52 rfl (hall ⟨4, .data⟩ (by simp) rfl)
            have g53 : u 53 = .int .i32 (c : Nat) := got 5 53 rfl (hall ⟨5, .data⟩ (by simp) rfl)
            have g54 : u 54 = .agg (numC x) := got 6 54 rfl (hall ⟨6, .data⟩ (by simp) rfl)
            have n10 : b 10 = false := by
              cases h : b 10 with
              | false => rfl
              | true => rw [(HW.out.o h).2] at hbi; cases hbi
            have N10 := hidMk n10
            clear n10
            have HPW := hidMk (HW.out.p hbi)
            go_simp
            refine (CW.out _ HPW.out).mono ?_
            rintro e w9 ⟨P', m', T', r', rfl, hpw9, hb9, l1, l2, l3, l4⟩
            exact HKK.out _ _ _ (by rw [c0, c8, c10, g52, g53, g54]; rfl) (fun _ => trivial) (HW.out.called N10.out (hall4 := hall ⟨4, .data⟩ (by simp) rfl) hpw9 hb9 l1 l2 l3 l4)
          · cases ho
            have g48 : u 48 = .pointer (some ⟨K, 0, none⟩) := got 0 48 rfl (hall ⟨0, .data⟩ (by simp) rfl)
            go_simp
            exact HKK.out _ _ _ (by rw [c0, c8, c10, g48]; rfl) (fun _ => rfl) HW.out
          · cases ho
            have g56 : u 56 = .pointer (some ⟨K, 0, none⟩) := got 8 56 rfl (hall ⟨8, .data⟩ (by simp) rfl)
            go_simp
            exact HKK.out _ _ _ (by rw [c0, c8, c10, g56]; rfl) (fun _ => rfl) HW.out
          · cases ho
            have g57 : u 57 = .pointer (some ⟨K, 2, none⟩) := got 9 57 rfl (hall ⟨9, .data⟩ (by simp) rfl)
            have Y7 : Hid (b 7 = true) := hall ⟨7, .data⟩ (by simp) rfl
            have Y4 : Hid (b 4 = true) := hall ⟨4, .phase⟩ (by simp) rfl
            obtain ⟨P', m', T', r', q1, q2, q3, q4, q5, q6, _⟩ := HW.out.q Y7.out
            have hKc := HW.out.k hbi
            obtain ⟨k0, k2, f0, f2⟩ := bk_cells hKc
            have NB := hidMk hbi
            go_simp
            exact HKK.out undef _ _ (by rw [c0, c8, c10, g57, q1]; rfl) (fun h => by cases h) (HW.out.stored NB.out Y4.out Y7.out q1)
          · simp at ho
        · intro b u w' hall hU hW
          obtain ⟨P', m', T', r', q1, q2, q3, q4, q5, q6, q7⟩ := hW.out.q (hall 7 (by decide))
          have hK := q7 (hall 10 (by decide))
          have HKP := hidMk hW.out.hk
          obtain ⟨u0, _, uf, _⟩ := bk_cells hK
          have hA : actD [{ target := .fn (.func 39) #[], args := #[.pointer (some ⟨K, 0, none⟩)] }] 58 u = ⟨#[u 0, u 1, u 2, u 3, u 4, u 5, u 6, u 7, u 8, u 9, u 10, u 11, u 12, u 13, u 14, u 15, u 16, u 17, u 18, u 19, u 20, u 21, u 22, u 23, u 24, u 25, u 26, u 27, u 28, u 29, u 30, u 31, u 32, u 33, u 34, u 35, u 36, u 37, u 38, u 39, u 40, u 41, u 42, u 43, u 44, u 45, u 46, u 47, u 48, u 49, u 50, u 51, u 52, u 53, u 54, u 55, u 56, u 57], [{ target := .fn (.func 39) #[], args := #[.pointer (some ⟨K, 0, none⟩)] }]⟩ := rfl
          have e0 : u 0 = .pointer (some ⟨K, 0, none⟩) := hU.oldB 0 (by kernel_rfl)
          have e1 : u 1 = .string nm := hU.oldB 1 (by kernel_rfl)
          have e2 : u 2 = .string s := hU.oldB 2 (by kernel_rfl)
          have e3 : u 3 = undef := hU.oldB 3 (by kernel_rfl)
          have e4 : u 4 = undef := hU.oldB 4 (by kernel_rfl)
          have e5 : u 5 = undef := hU.oldB 5 (by kernel_rfl)
          have e6 : u 6 = .int .i64 0 := hU.oldB 6 (by kernel_rfl)
          have e7 : u 7 = .int .i64 0 := hU.oldB 7 (by kernel_rfl)
          have e8 : u 8 = .int .i32 (c : Nat) := hU.oldB 8 (by kernel_rfl)
          have e9 : u 9 = .bool true := hU.oldB 9 (by kernel_rfl)
          have e10 : u 10 = .pointer (some ⟨b9, 0, none⟩) := hU.oldB 10 (by kernel_rfl)
          have e11 : u 11 = .int .i64 0 := hU.oldB 11 (by kernel_rfl)
          have e12 : u 12 = .int .i64 0 := hU.oldB 12 (by kernel_rfl)
          have e13 : u 13 = .tuple #[.int .i32 (c : Nat), .bool true] := hU.oldB 13 (by kernel_rfl)
          have e14 : u 14 = .string nm := hU.oldB 14 (by kernel_rfl)
          have e15 : u 15 = .tuple #[.int .i32 (c : Nat), .bool true] := hU.oldB 15 (by kernel_rfl)
          have e16 : u 16 = .int .i32 (c : Nat) := hU.oldB 16 (by kernel_rfl)
          have e17 : u 17 = .bool true := hU.oldB 17 (by kernel_rfl)
          have e18 : u 18 = .bool true := hU.oldB 18 (by kernel_rfl)
          have e19 : u 19 = .bool false := hU.oldB 19 (by kernel_rfl)
          have e20 : u 20 = .pointer (some ⟨K, 0, none⟩) := hU.oldB 20 (by kernel_rfl)
          have e21 : u 21 = .pointer (some ⟨K, 0, none⟩) := hU.oldB 21 (by kernel_rfl)
          have e22 : u 22 = .pointer (some ⟨K, 0, none⟩) := hU.oldB 22 (by kernel_rfl)
          have e23 : u 23 = .tuple #[] := hU.oldB 23 (by kernel_rfl)
          have e24 : u 24 = .pointer (some ⟨K, 0, none⟩) := hU.oldB 24 (by kernel_rfl)
          have e25 : u 25 = .pointer (some ⟨K, 0, none⟩) := hU.oldB 25 (by kernel_rfl)
          have e26 : u 26 = .pointer (some ⟨K, 0, none⟩) := hU.oldB 26 (by kernel_rfl)
          have e27 : u 27 = .tuple #[.agg (numC x), .int .i64 0, .int .i64 0] := hU.oldB 27 (by kernel_rfl)
          have e28 : u 28 = .pointer (some ⟨K, 0, none⟩) := hU.oldB 28 (by kernel_rfl)
          have e29 : u 29 = .pointer (some ⟨K, 0, none⟩) := hU.oldB 29 (by kernel_rfl)
          have e30 : u 30 = .pointer (some ⟨K, 2, none⟩) := hU.oldB 30 (by kernel_rfl)
          have e31 : u 31 = .pointer (some ⟨P, 0, none⟩) := hU.oldB 31 (by kernel_rfl)
          have e32 : u 32 = .string s := hU.oldB 32 (by kernel_rfl)
          have e33 : u 33 = .tuple #[.agg (numC x), .int .i64 0, .int .i64 0] := hU.oldB 33 (by kernel_rfl)
          have e34 : u 34 = .agg (numC x) := hU.oldB 34 (by kernel_rfl)
          have e35 : u 35 = .int .i64 0 := hU.oldB 35 (by kernel_rfl)
          have e36 : u 36 = .int .i64 0 := hU.oldB 36 (by kernel_rfl)
          have e37 : u 37 = .int .i64 0 := hU.oldB 37 (by kernel_rfl)
          have e38 : u 38 = .bool false := hU.oldB 38 (by kernel_rfl)
          have e39 : u 39 = undef := hU.oldB 39 (by kernel_rfl)
          have e40 : u 40 = undef := hU.oldB 40 (by kernel_rfl)
          have e41 : u 41 = .pointer (some ⟨K, 0, none⟩) := hU.oldB 41 (by kernel_rfl)
          have e42 : u 42 = .pointer (some ⟨K, 0, none⟩) := hU.oldB 42 (by kernel_rfl)
          have e43 : u 43 = .pointer (some ⟨K, 2, none⟩) := hU.oldB 43 (by kernel_rfl)
          have e44 : u 44 = .pointer (some ⟨P, 0, none⟩) := hU.oldB 44 (by kernel_rfl)
          have e45 : u 45 = .int .i32 (c : Nat) := hU.oldB 45 (by kernel_rfl)
          have e46 : u 46 = .bool true := hU.oldB 46 (by kernel_rfl)
          have e47 : u 47 = .bool false := hU.oldB 47 (by kernel_rfl)
          rw [hA, e0, e1, e2, e3, e4, e5, e6, e7, e8, e9, e10, e11, e12, e13, e14, e15, e16, e17, e18, e19, e20, e21, e22, e23, e24, e25, e26, e27, e28, e29, e30, e31, e32, e33, e34, e35, e36, e37, e38, e39, e40, e41, e42, e43, e44, e45, e46, e47]
          clear hA e0 e1 e2 e3 e4 e5 e6 e7 e8 e9 e10 e11 e12 e13 e14 e15 e16 e17 e18 e19 e20 e21 e22 e23 e24 e25 e26 e27 e28 e29 e30 e31 e32 e33 e34 e35 e36 e37 e38 e39 e40 e41 e42 e43 e44 e45 e46 e47
          have H6 : Hid (LtW N aZ aB K P' m' T' r' (putN names (c : Int) x) w' 1 w') := ⟨hK, q2, Kp.refl _ _⟩
          have HQ := hidMk (And.intro q3 (And.intro q4 (And.intro q5 q6)))
          clear hU hW hall q1 q2 q3 q4 q5 q6 q7 hK
          go_wp2_with fail
          refine leaves_cons (f := 39) (args := #[.pointer (some ⟨K, 0, none⟩)]) (by simp) (by simp [go_sem]) ?_
          refine (unlock_deferred muLib ⟨K, 0, none⟩ .returning _ u0 uf).mono ?_
          rintro e u' w'' ⟨rfl, rfl, hw⟩
          have h9 := H6.out.lock hN 0
          have hk9 := HKP.out.setCell (p := ⟨K, 0, none⟩) (Or.inl (Or.inl rfl)) (.int .i32 0)
          rw [← hw] at h9 hk9
          refine ⟨.tuple #[.int .i64 0, .int .i64 0], by simp [results, Tryz.results23, go_sem], ?_⟩
          rw [HR.out]
          exact ⟨rfl, P', m', T', r', ⟨h9.k, h9.p⟩, hk9, Or.inr HQ.out.1, Or.inr HQ.out.2.1, Or.inr HQ.out.2.2.1, Or.inr HQ.out.2.2.2⟩
      | false =>
        have HR : Hid (letR names nm s = (7, 0, names)) := by
          show _ = _
          rw [HR2.out, if_neg (by rw [hroom]; decide)]
        clear HR2 hroom
        obtain ⟨u0, _, uf, _⟩ := bk_cells H5.out.k
        go_wp2_with fail
        refine leaves_cons (f := 39) (args := #[.pointer (some ⟨K, 0, none⟩)]) (by simp) (by simp [go_sem]) ?_
        refine (unlock_deferred muLib ⟨K, 0, none⟩ .returning _ u0 uf).mono ?_
        rintro e u' w'' ⟨rfl, rfl, hw⟩
        have h9 := H5.out.lock hN 0
        rw [← hw] at h9
        refine ⟨.tuple #[.int .i64 7, .int .i64 0], by simp [results, Tryz.results23, go_sem], ?_⟩
        rw [HR.out]
        exact ⟨rfl, P, m, T, r, ⟨h9.k, h9.p⟩, h9.hk, Or.inl rfl, Or.inl rfl, Or.inl rfl, Or.inl rfl⟩
    · have HR2 : Hid (letR names nm s = (q, (p : Int), names)) := by
        show _ = _
        rw [HR.out, hv]
      rw [hv]
      have e1 : ansV (.err q p) = .tuple #[.agg (numC ⟨⟨0, 0⟩, ⟨0, 0⟩⟩), .int .i64 q, .int .i64 p] := rfl
      rw [e1]
      have hne : (q != 0) = true := by simpa using hq
      clear hv hq e1 HX HVS HR CH
      have HR := HR2
      clear HR2
      go_upto_region 7 with fail
      have H4 := hidMk (H3.out.below (fr_below w3 (.cells (numC ⟨⟨0, 0⟩, ⟨0, 0⟩⟩) 82)))
      generalize w3.alloc _ = W4 at *
      clear H3
      obtain ⟨u0, _, uf, _⟩ := bk_cells H4.out.k
      go_wp2_with fail
      refine leaves_cons (f := 39) (args := #[.pointer (some ⟨K, 0, none⟩)]) (by simp) (by simp [go_sem]) ?_
      refine (unlock_deferred muLib ⟨K, 0, none⟩ .returning _ u0 uf).mono ?_
      rintro e u' w'' ⟨rfl, rfl, hw⟩
      have h9 := H4.out.lock hN 0
      rw [← hw] at h9
      refine ⟨.tuple #[.int .i64 q, .int .i64 p], by simp [results, Tryz.results23, go_sem], ?_⟩
      rw [HR.out]
      exact ⟨rfl, P, m, T, r, ⟨h9.k, h9.p⟩, h9.hk, Or.inl rfl, Or.inl rfl, Or.inl rfl, Or.inl rfl⟩
  · rw [hok]
    have HR : Hid (letR names nm s = (3, 0, names)) := if_pos hok
    clear hok hnm HNS
    go_wp2_with fail
    refine ⟨.tuple #[.int .i64 3, .int .i64 0], by simp [results, Tryz.results23, go_sem], ?_⟩
    rw [HR.out]
    exact ⟨rfl, P, m, T, r, ⟨H1.out.k, H1.out.p⟩, H1.out.hk, Or.inl rfl, Or.inl rfl, Or.inl rfl, Or.inl rfl⟩
end Go.Proofs.YtodabmkcihafhaaGreatDoor

/- Let leaves few names. -/
namespace Go.Proofs.YtodabmkcihafhaaGreatDoor
open Go.RowKit
set_option linter.unusedVariables false
theorem let_len {names : List (Int × Num)} (nm s : ByteArray) (h : names.length ≤ 1000) : (letR names nm s).2.2.length ≤ 1000 := by
  unfold letR
  split
  · exact h
  · split
    · exact h
    · split
      · rename_i x _ hr
        have hp : ∀ (l : List (Int × Num)) (c : Int) (x : Num), (envOf l c).isSome = true → (putN l c x).length = l.length := by
          intro l c x
          induction l with
          | nil => intro h; simp [envOf] at h
          | cons p r ih =>
            intro h
            unfold putN
            by_cases hc : p.1 = c
            · rw [if_pos hc]; simp
            · rw [if_neg hc]
              have : (envOf r c).isSome = true := by simpa [envOf, hc] using h
              simp [ih this]
        have hq : ∀ (l : List (Int × Num)) (c : Int) (x : Num), (putN l c x).length ≤ l.length + 1 := by
          intro l c x
          induction l with
          | nil => simp [putN]
          | cons p r ih =>
            unfold putN
            split
            · simp
            · simpa using ih
        simp only [Bool.or_eq_true, decide_eq_true_eq] at hr
        rcases hr with hr | hr
        · simp only; rw [hp _ _ _ hr]; exact h
        · have := hq names (nmP nm) x
          simp only
          omega
      · exact h
end Go.Proofs.YtodabmkcihafhaaGreatDoor

/- Digits: the pure side. -/
namespace Go.Proofs.YtodabmkcihafhaaGreatDoor
open Go.RowKit
set_option linter.unusedVariables false

/-- One digit of n by d, and what is left. -/
def dg (n d : Int) : Int := if 2 * (2 * n) > d then 1 else if 2 * (2 * n) < -d then -1 else 0
def nx (n d : Int) : Int := 2 * n - dg n d * d
def lf (n d : Int) : Nat → Int
  | 0 => n
  | j + 1 => nx (lf n d j) d
theorem dg_cases (n d : Int) (hd : 0 < d) : (2 * (2 * n) > d ∧ dg n d = 1 ∧ nx n d = 2 * n - d) ∨ (¬ 2 * (2 * n) > d ∧ 2 * (2 * n) < -d ∧ dg n d = -1 ∧ nx n d = 2 * n + d) ∨ (¬ 2 * (2 * n) > d ∧ ¬ 2 * (2 * n) < -d ∧ dg n d = 0 ∧ nx n d = 2 * n) := by
  unfold nx
  by_cases h1 : 2 * (2 * n) > d
  · have : dg n d = 1 := if_pos h1
    exact Or.inl ⟨h1, this, by rw [this]; omega⟩
  · by_cases h2 : 2 * (2 * n) < -d
    · have : dg n d = -1 := (if_neg h1).trans (if_pos h2)
      exact Or.inr (Or.inl ⟨h1, h2, this, by rw [this]; omega⟩)
    · have : dg n d = 0 := (if_neg h1).trans (if_neg h2)
      exact Or.inr (Or.inr ⟨h1, h2, this, by rw [this]; omega⟩)
theorem nx_in {n d : Int} (hd : 0 < d) (h : -d ≤ n ∧ n ≤ d) : -d ≤ nx n d ∧ nx n d ≤ d := by
  rcases dg_cases n d hd with ⟨h1, _, h3⟩ | ⟨h1, h2, _, h3⟩ | ⟨h1, h2, _, h3⟩ <;> rw [h3] <;> omega
theorem lf_in {n d : Int} (hd : 0 < d) (h : -d ≤ n ∧ n ≤ d) : ∀ j, -d ≤ lf n d j ∧ lf n d j ≤ d
  | 0 => h
  | j + 1 => nx_in hd (lf_in hd h j)
/-- The unit of a number: the least e. -/
def fitB (f : Fr) (e : Nat) : Bool := decide (-(f.d * 2 ^ e) ≤ f.n) && decide (f.n ≤ f.d * 2 ^ e)
def unitP (x : Num) : Nat := ((List.range 21).find? fun e => fitB x.re e && fitB x.im e).getD 0
theorem pow20 (e : Nat) (h : e ≤ 20) : (1 : Int) ≤ 2 ^ e ∧ (2 : Int) ^ e ≤ 1048576 := pow_le20 h
theorem fit20 {f : Fr} (hf : f.Ok) : fitB f 20 = true := by
  obtain ⟨d1, d2, n1, n2, _⟩ := hf
  unfold fitB
  have : (2 : Int) ^ 20 = 1048576 := by decide
  rw [this]
  simp
  omega
theorem unit_is {x : Num} {e : Nat} (he : e ≤ 20) (h1 : fitB x.re e = true ∧ fitB x.im e = true) (h2 : ∀ j < e, ¬ (fitB x.re j = true ∧ fitB x.im j = true)) : unitP x = e := by
  have : (List.range 21).find? (fun e => fitB x.re e && fitB x.im e) = some e := by
    rw [List.find?_range_eq_some]
    refine ⟨by simp [h1.1, h1.2], by simp; omega, fun j hj => ?_⟩
    have := h2 j hj
    revert this
    cases fitB x.re j <;> cases fitB x.im j <;> simp
  unfold unitP
  rw [this]
  rfl
theorem unit_fit {x : Num} (hx : x.Ok) : unitP x ≤ 20 ∧ fitB x.re (unitP x) = true ∧ fitB x.im (unitP x) = true ∧ ∀ j < unitP x, ¬ (fitB x.re j = true ∧ fitB x.im j = true) := by
  unfold unitP
  cases h : (List.range 21).find? (fun e => fitB x.re e && fitB x.im e) with
  | none =>
    rw [List.find?_eq_none] at h
    have := h 20 (by simp)
    simp [fit20 hx.1, fit20 hx.2] at this
  | some e =>
    rw [List.find?_range_eq_some] at h
    obtain ⟨h1, h2, h3⟩ := h
    simp at h1 h2
    refine ⟨by simp; omega, by simpa using h1.1, by simpa using h1.2, fun j hj => ?_⟩
    have := h3 j (by simpa using hj)
    revert this
    cases fitB x.re j <;> cases fitB x.im j <;> simp
/-- The unit's denominator of a part. -/
def unD (f : Fr) (e : Nat) : Int := f.d * 2 ^ e
theorem unD_in {f : Fr} (hf : f.Ok) {e : Nat} (he : e ≤ 20) : 0 < unD f e ∧ unD f e ≤ 1048574951424 := by
  obtain ⟨p1, p2⟩ := pow20 e he
  obtain ⟨d1, d2, _⟩ := hf
  unfold unD
  have h1 := Int.mul_le_mul d2 p2 (by omega) (by omega : (0 : Int) ≤ 999999)
  have h2 := Int.mul_pos d1 (by omega : (0 : Int) < 2 ^ e)
  omega
theorem fit_in {f : Fr} {e : Nat} (h : fitB f e = true) : -(unD f e) ≤ f.n ∧ f.n ≤ unD f e := by
  unfold fitB at h
  unfold unD
  simpa using h
/-- The digits of a part. -/
def digL (f : Fr) (e k : Nat) : List Int := (List.range k).map fun j => dg (lf f.n (unD f e) j) (unD f e)
theorem digL_succ (f : Fr) (e k : Nat) : digL f e (k + 1) = digL f e k ++ [dg (lf f.n (unD f e) k) (unD f e)] := by
  unfold digL
  rw [List.range_succ, List.map_append]
  rfl
theorem digL_len (f : Fr) (e k : Nat) : (digL f e k).length = k := by simp [digL]
theorem digL_get (f : Fr) (e k j : Nat) (h : j < k) : (digL f e k)[j]? = some (dg (lf f.n (unD f e) j) (unD f e)) := by
  simp [digL, List.getElem?_range h]
theorem dg_in (n d : Int) : dg n d = 1 ∨ dg n d = -1 ∨ dg n d = 0 := by
  unfold dg
  split
  · exact Or.inl rfl
  · split
    · exact Or.inr (Or.inl rfl)
    · exact Or.inr (Or.inr rfl)

/-! ### The program's unit -/
set_option maxHeartbeats 1000000 in
theorem within_any (f : Fr) (e : Nat) (w : World) (hf : f.Ok) (he : e ≤ 20) : Calls Tryz.prog 70 #[.agg #[.int .i64 f.n, .int .i64 f.d], .int .i64 e] w fun r w' => r = .returned (.bool (fitB f e)) ∧ Below w.heap.size w w' := by
  obtain ⟨p1, p2⟩ := pow20 e he
  obtain ⟨u1, u2⟩ := unD_in hf he
  have wM : wrap64 (f.d * 2 ^ e) = unD f e := by show wrap64 (unD f e) = _; unfold wrap64; omega
  have wN : wrap64 (-(unD f e)) = -(unD f e) := by unfold wrap64; omega
  have HV : Hid (fitB f e = (decide (-(unD f e) ≤ f.n) && decide (f.n ≤ unD f e))) := rfl
  obtain ⟨d1, d2, n1, n2, _⟩ := hf
  have hx := heap_alloc_new w (.cells #[.int .i64 f.n, .int .i64 f.d] 80)
  have hb := fr_below w (.cells #[.int .i64 f.n, .int .i64 f.d] 80)
  generalize fitB f e = FB at *
  go_enter Tryz.func70, Tryz.ntmps70
  go_upto_region 1 with fail
  generalize w.alloc _ = W at *
  obtain ⟨c0, c1, _, _⟩ := two_cells hx
  generalize unD f e = U at *
  generalize f.n = fn at *
  generalize f.d = fd at *
  clear hx
  go_upto_region 2 with fail
  rw [wM]
  clear wM
  by_cases h1 : -U ≤ fn
  · by_cases h2 : fn ≤ U
    · go_wp2_with fail
      go_ret
      exact ⟨by rw [HV.out]; simp [h1, h2], hb⟩
    · go_wp2_with fail
      go_ret
      exact ⟨by rw [HV.out]; simp [h1, h2], hb⟩
  · go_wp2_with fail
    go_ret
    exact ⟨by rw [HV.out, decide_eq_false (show ¬ -U ≤ fn by omega)]; rfl, hb⟩

set_option maxHeartbeats 2000000 in
theorem exponent_any (x : Num) (w : World) (hx : x.Ok) : Calls Tryz.prog 45 #[.agg (numC x)] w fun r w' => r = .returned (.int .i64 (unitP x : Nat)) ∧ Below w.heap.size w w' := by
  have CR := hidMk (fun e W he => within_any x.re e W hx.1 he)
  have CI := hidMk (fun e W he => within_any x.im e W hx.2 he)
  obtain ⟨q1, q2, q3, q4⟩ := unit_fit hx
  have HU := hidMk (show fitB x.re 20 = true ∧ fitB x.im 20 = true from ⟨fit20 hx.1, fit20 hx.2⟩)
  have HI := hidMk (fun e he h1 h2 => unit_is (x := x) (e := e) he h1 h2)
  have hx0 := heap_alloc_new w (.cells (numC x) 82)
  have hb := fr_below w (.cells (numC x) 82)
  clear hx q1 q2 q3 q4
  generalize unitP x = V at *
  go_enter Tryz.func45, Tryz.ntmps45
  go_upto_region 1 with fail
  generalize w.alloc _ = W at *
  have HX := hidMk hx0
  have HB := hidMk hb
  clear hx0 hb
  go_wp2_with fail
  go_loopg [3] 21 (fun g s3 wr => ∃ e : Nat, s3 = .int .i64 e ∧ e ≤ 20 ∧ Hid (e + g = 21) ∧ Hid (∀ j < e, ¬ (fitB x.re j = true ∧ fitB x.im j = true)) ∧ Hid (wr.heap[w.heap.size]? = some (.cells (numC x) 82 (0, 0)) ∧ Below w.heap.size w wr))
  case atStart =>
    exact ⟨0, rfl, by omega, rfl, fun j hj => by omega, HX.out, HB.out⟩
  case round =>
    obtain ⟨e, rfl, he, hg, hno, hw⟩ := hrel
    obtain ⟨c0, c1, c2, c3⟩ := four_cells hw.out.1
    have cr := CR.out e wr he
    cases hf1 : fitB x.re e with
    | false =>
      rw [hf1] at cr
      have HN : Hid (e + 1 ≤ 20 ∧ ∀ j < e + 1, ¬ (fitB x.re j = true ∧ fitB x.im j = true)) := by
        refine ⟨?_, fun j hj => ?_⟩
        · have := HU.out.1
          by_cases h20 : e = 20
          · subst h20; rw [hf1] at this; cases this
          · omega
        · by_cases hje : j = e
          · subst hje; rw [hf1]; simp
          · exact hno.out j (by omega)
      clear hf1
      go_wp2_with (go_at_call 70; refine cr.mono ?_; clear cr; rintro r w1 ⟨rfl, hb1⟩)
      go_roundg (20 - e)
      case measure => have := hg.out; omega
      case rel => exact ⟨e + 1, rfl, HN.out.1, by have := HN.out.1; show _ = _; omega, HN.out.2, (hb1.block _ (Array.getElem?_eq_some_iff.1 hw.out.1).1).trans hw.out.1, hw.out.2.trans (hb1.mono hw.out.2.size)⟩
    | true =>
      rw [hf1] at cr
      go_wp2_with fail
      refine cr.mono ?_
      clear cr
      rintro r w1 ⟨rfl, hb1⟩
      have hw1 : Hid (w1.heap[w.heap.size]? = some (.cells (numC x) 82 (0, 0)) ∧ Below w.heap.size w w1) := ⟨(hb1.block _ (Array.getElem?_eq_some_iff.1 hw.out.1).1).trans hw.out.1, hw.out.2.trans (hb1.mono hw.out.2.size)⟩
      clear hw c0 c1 c2 c3 hb1
      obtain ⟨c0, c1, c2, c3⟩ := four_cells hw1.out.1
      have ci := CI.out e w1 he
      cases hf2 : fitB x.im e with
      | false =>
        rw [hf2] at ci
        have HN : Hid (e + 1 ≤ 20 ∧ ∀ j < e + 1, ¬ (fitB x.re j = true ∧ fitB x.im j = true)) := by
          refine ⟨?_, fun j hj => ?_⟩
          · have := HU.out.2
            by_cases h20 : e = 20
            · subst h20; rw [hf2] at this; cases this
            · omega
          · by_cases hje : j = e
            · subst hje; rw [hf2]; simp
            · exact hno.out j (by omega)
        clear hf1 hf2
        go_wp2_with fail
        refine ci.mono ?_
        clear ci
        rintro r w2 ⟨rfl, hb2⟩
        go_wp2_with fail
        go_roundg (20 - e)
        case measure => have := hg.out; omega
        case rel => exact ⟨e + 1, rfl, HN.out.1, by have := HN.out.1; show _ = _; omega, HN.out.2, (hb2.block _ (Array.getElem?_eq_some_iff.1 hw1.out.1).1).trans hw1.out.1, hw1.out.2.trans (hb2.mono hw1.out.2.size)⟩
      | true =>
        rw [hf2] at ci
        have HV : Hid (V = e) := HI.out e he ⟨hf1, hf2⟩ hno.out
        clear hf1 hf2
        go_wp2_with fail
        refine ci.mono ?_
        clear ci
        rintro r w2 ⟨rfl, hb2⟩
        go_wp2_with fail
        go_ret
        exact ⟨by rw [HV.out]; rfl, hw1.out.2.trans (hb2.mono hw1.out.2.size)⟩
end Go.Proofs.YtodabmkcihafhaaGreatDoor

/- Digits: the document's unit and digits. -/
namespace Go.Proofs.YtodabmkcihafhaaGreatDoor
open Go.RowKit
set_option linter.unusedVariables false
theorem fit_abs (f : Fr) (e : Nat) : fitB f e = !(decide ((f.n.natAbs : Int) > 2 ^ e * f.d)) := by
  unfold fitB
  rw [Int.mul_comm f.d]
  generalize (2 : Int) ^ e * f.d = U
  by_cases h1 : -U ≤ f.n
  · by_cases h2 : f.n ≤ U
    · have : ¬ ((f.n.natAbs : Int) > U) := by omega
      simp [h1, h2, this]
    · have : ((f.n.natAbs : Int) > U) := by omega
      simp [h1, h2, this]
  · have : ((f.n.natAbs : Int) > U) := by omega
    simp [h1, this]
set_option maxHeartbeats 4000000 in
theorem runit_any (x : Num) (w : World) (hx : x.Ok) : Calls Tryz.prog 104 #[.agg (numC x)] w fun r w' => r = .returned (.int .i64 (unitP x : Nat)) ∧ Below w.heap.size w w' := by
  have CA : Hid (∀ W, Calls Tryz.prog 88 #[.int .i64 x.re.n] W fun e w' => e = .returned (.int .i64 x.re.n.natAbs) ∧ ∃ n, w' = W.drewN n) := fun W => (rabs_any x.re.n W (by have := hx.1.2.2.1; omega) (by have := hx.1.2.2.2.1; omega)).mono fun e w' h => ⟨h.1, 0, h.2⟩
  have CB : Hid (∀ W, Calls Tryz.prog 88 #[.int .i64 x.im.n] W fun e w' => e = .returned (.int .i64 x.im.n.natAbs) ∧ ∃ n, w' = W.drewN n) := fun W => (rabs_any x.im.n W (by have := hx.2.2.2.1; omega) (by have := hx.2.2.2.2.1; omega)).mono fun e w' h => ⟨h.1, 0, h.2⟩
  have CP : Hid (∀ e W, e ≤ 20 → Calls Tryz.prog 110 #[.int .i64 (e : Nat)] W fun r w' => r = .returned (.int .i64 (2 ^ e)) ∧ ∃ n, w' = W.drewN n) := fun e W he => (power_any e W he).mono fun e w' h => ⟨h.1, 0, h.2⟩
  have HU := hidMk (show fitB x.re 20 = true ∧ fitB x.im 20 = true from ⟨fit20 hx.1, fit20 hx.2⟩)
  have HI := hidMk (fun e he h1 h2 => unit_is (x := x) (e := e) he h1 h2)
  have HD := hidMk (fun e (he : e ≤ 20) => (⟨unD_in hx.1 he, unD_in hx.2 he⟩ : (0 < unD x.re e ∧ unD x.re e ≤ 1048574951424) ∧ (0 < unD x.im e ∧ unD x.im e ≤ 1048574951424)))
  have hx0 := heap_alloc_new w (.cells (numC x) 92)
  have hb := fr_below w (.cells (numC x) 92)
  clear hx
  generalize unitP x = V at *
  go_enter Tryz.func104, Tryz.ntmps104
  go_upto_region 1 with fail
  generalize w.alloc _ = W at *
  have HX := hidMk hx0
  have HB := hidMk hb
  clear hx0 hb
  go_wp2_with fail
  go_loopg [3] 21 (fun g s3 wr => ∃ e : Nat, s3 = .int .i64 e ∧ e ≤ 20 ∧ Hid (e + g = 21) ∧ Hid (∀ j < e, ¬ (fitB x.re j = true ∧ fitB x.im j = true)) ∧ Hid (wr.heap[w.heap.size]? = some (.cells (numC x) 92 (0, 0)) ∧ Below w.heap.size w wr))
  case atStart =>
    exact ⟨0, rfl, by omega, rfl, fun j hj => by omega, HX.out, HB.out⟩
  case round =>
    obtain ⟨e, rfl, he, hg, hno, hw⟩ := hrel
    obtain ⟨c0, c1, c2, c3⟩ := four_cells hw.out.1
    have hd := HD.out e he
    have f1 := fit_abs x.re e
    have f2 := fit_abs x.im e
    have wm1 : wrap64 (2 ^ e * x.re.d) = 2 ^ e * x.re.d := by have := hd.1; unfold unD at this; rw [Int.mul_comm] at this; unfold wrap64; omega
    have wm2 : wrap64 (2 ^ e * x.im.d) = 2 ^ e * x.im.d := by have := hd.2; unfold unD at this; rw [Int.mul_comm] at this; unfold wrap64; omega
    have HF : Hid (fitB x.re e = !(decide ((x.re.n.natAbs : Int) > 2 ^ e * x.re.d)) ∧ fitB x.im e = !(decide ((x.im.n.natAbs : Int) > 2 ^ e * x.im.d))) := ⟨f1, f2⟩
    clear f1 f2 hd
    generalize hU1 : (2 : Int) ^ e * x.re.d = U1 at *
    generalize hU2 : (2 : Int) ^ e * x.im.d = U2 at *
    have ca := hidMk CA.out
    generalize ha1 : (x.re.n.natAbs : Int) = A1 at *
    generalize ha2 : (x.im.n.natAbs : Int) = A2 at *
    by_cases h1 : A1 > U1
    · have q1 : decide (A1 > U1) = true := by simpa using h1
      have HN : Hid (e + 1 ≤ 20 ∧ ∀ j < e + 1, ¬ (fitB x.re j = true ∧ fitB x.im j = true)) := by
        have hf1 : fitB x.re e = false := by rw [HF.out.1, q1]; rfl
        refine ⟨?_, fun j hj => ?_⟩
        · have := HU.out.1
          by_cases h20 : e = 20
          · subst h20; rw [hf1] at this; cases this
          · omega
        · by_cases hje : j = e
          · subst hje; rw [hf1]; simp
          · exact hno.out j (by omega)
      clear HF
      go_wp2_with fail
      go_quiet (first | (go_at_call_of 88 (Value.int .i64 x.re.n); exact Calls.quiet_of (CA.out _)) | (go_at_call 110; exact Calls.quiet_of (CP.out e _ he)))
      go_wp2_with fail
      go_roundg (20 - e)
      case measure => have := hg.out; omega
      case rel => exact ⟨e + 1, rfl, HN.out.1, by have := HN.out.1; show _ = _; omega, HN.out.2, by rw [World.heap_drewN]; exact hw.out.1, below_drewN hw.out.2 nq⟩
    · have q1 : decide (A1 > U1) = false := by simpa using h1
      have hf1 : fitB x.re e = true := by rw [HF.out.1, q1]; rfl
      by_cases h2 : A2 > U2
      · have q2 : decide (A2 > U2) = true := by simpa using h2
        have HN : Hid (e + 1 ≤ 20 ∧ ∀ j < e + 1, ¬ (fitB x.re j = true ∧ fitB x.im j = true)) := by
          have hf2 : fitB x.im e = false := by rw [HF.out.2, q2]; rfl
          refine ⟨?_, fun j hj => ?_⟩
          · have := HU.out.2
            by_cases h20 : e = 20
            · subst h20; rw [hf2] at this; cases this
            · omega
          · by_cases hje : j = e
            · subst hje; rw [hf2]; simp
            · exact hno.out j (by omega)
        clear HF hf1
        go_wp2_with fail
        go_quiet (first | (go_at_call_of 88 (Value.int .i64 x.re.n); exact Calls.quiet_of (CA.out _)) | (go_at_call_of 88 (Value.int .i64 x.im.n); exact Calls.quiet_of (CB.out _)) | (go_at_call 110; exact Calls.quiet_of (CP.out e _ he)))
        go_wp2_with fail
        go_roundg (20 - e)
        case measure => have := hg.out; omega
        case rel => exact ⟨e + 1, rfl, HN.out.1, by have := HN.out.1; show _ = _; omega, HN.out.2, by rw [World.heap_drewN]; exact hw.out.1, below_drewN hw.out.2 nq⟩
      · have q2 : decide (A2 > U2) = false := by simpa using h2
        have HV : Hid (V = e) := HI.out e he ⟨hf1, by rw [HF.out.2, q2]; rfl⟩ hno.out
        clear HF hf1
        go_wp2_with fail
        go_quiet (first | (go_at_call_of 88 (Value.int .i64 x.re.n); exact Calls.quiet_of (CA.out _)) | (go_at_call_of 88 (Value.int .i64 x.im.n); exact Calls.quiet_of (CB.out _)) | (go_at_call 110; exact Calls.quiet_of (CP.out e _ he)))
        go_wp2_with fail
        go_ret
        exact ⟨by rw [HV.out]; rfl, below_drewN hw.out.2 nq⟩
end Go.Proofs.YtodabmkcihafhaaGreatDoor

/- Digits: the document's digits of one part. -/
namespace Go.Proofs.YtodabmkcihafhaaGreatDoor
open Go.RowKit
set_option linter.unusedVariables false
def iC (l : List Int) : List Value := l.map (Value.int .i64)
theorem Tryz.infoInt : (Tryz.prog.info? 3).map (fun i => (i.zero, i.size, i.bytes)) = some (some (.int .i64 0), 1, 8) := by kernel_rfl
theorem ic_one (n : Int) : ∀ u ∈ [Value.int .i64 n], u.oneCell' = true := by
  intro u hu
  simp at hu
  subst hu
  rfl
theorem ic_new (w : World) (n : Int) : ∀ j u, [Value.int .i64 n][j]? = some u → (w.alloc (.cells #[.int .i64 n] 3)).cell? ((⟨w.heap.size, 0, none⟩ : Addr).add j) = some u := by
  refine World.news_of_block (cs := #[.int .i64 n]) (t := 3) (fr := (0, 0)) ?_
  exact heap_alloc_new w _
set_option maxHeartbeats 4000000 in
set_option maxRecDepth 1000000 in
theorem rdigits_any (f : Fr) (e k : Nat) (w : World) (hf : f.Ok) (he : e ≤ 20) (hk : k ≤ 20) (hfit : fitB f e = true) :
    Calls Tryz.prog 105 #[.agg #[.int .i64 f.n, .int .i64 f.d], .int .i64 e, .int .i64 k] w fun r w' => ∃ v, r = .returned v ∧ w'.ownsRow w.heap.size 3 1 v k (iC (digL f e k)) ∧ Below w.heap.size w w' := by
  obtain ⟨i0, hi, hz0, hz1, hz2⟩ := info_parts Tryz.infoInt
  have Hi : Hid (Tryz.prog.info? 3 = some i0) := hi
  have Hz : Hid (i0.zero = some (.int .i64 0)) := hz0
  have Hz1 : Hid (i0.size = 1) := hz1
  have Hz2 : Hid (i0.bytes = 8) := hz2
  clear hi hz0 hz1 hz2
  have CP : Hid (∀ W, Calls Tryz.prog 110 #[.int .i64 (e : Nat)] W fun r w' => r = .returned (.int .i64 (2 ^ e)) ∧ ∃ n, w' = W.drewN n) := fun W => (power_any e W he).mono fun e w' h => ⟨h.1, 0, h.2⟩
  have hu := unD_in hf he
  have hin := lf_in hu.1 (fit_in hfit)
  have HS := hidMk (fun j => digL_succ f e j)
  have H0 : Hid (digL f e 0 = [] ∧ lf f.n (unD f e) 0 = f.n) := ⟨rfl, rfl⟩
  have HL := hidMk (fun j => digL_len f e j)
  have hx0 := heap_alloc_new w (.cells #[.int .i64 f.n, .int .i64 f.d] 90)
  have hb := fr_below w (.cells #[.int .i64 f.n, .int .i64 f.d] 90)
  have hU : wrap64 (f.d * 2 ^ e) = unD f e := by show wrap64 (unD f e) = _; unfold wrap64; omega
  have HLS : Hid (∀ j, lf f.n (unD f e) (j + 1) = nx (lf f.n (unD f e) j) (unD f e)) := fun j => rfl
  clear hf he hfit
  generalize hD : unD f e = D at *
  generalize hLF : lf f.n D = LF at *
  generalize hDL : digL f e = DL at *
  clear hD hLF hDL
  go_enter Tryz.func105, Tryz.ntmps105
  go_upto_region 1 with fail
  generalize w.alloc _ = W at *
  obtain ⟨c0, c1, _, _⟩ := two_cells hx0
  have HB := hidMk hb
  clear hx0 hb
  go_wp2_with fail
  go_quiet (first | (go_at_call 110; exact Calls.quiet_of (CP.out _)))
  rw [hU]
  go_wp2_with fail
  go_loopg [7, 8, 10] k (fun g s7 s8 s10 wr => ∃ j : Nat, s10 = .int .i64 j ∧ s8 = .int .i64 (LF j) ∧ Hid (wr.ownsRow w.heap.size 3 1 s7 j (iC (DL j))) ∧ j ≤ k ∧ Hid (k - j = g) ∧ Hid (Below w.heap.size w wr))
  case atStart => exact ⟨0, rfl, by rw [H0.out.2], by rw [H0.out.1]; exact World.ownsRow_nil _ _ _ _, Nat.zero_le _, rfl, below_drewN HB.out nq⟩
  case round =>
    obtain ⟨j, rfl, rfl, hown, hjk, hg, hbw⟩ := hrel
    have HSZ := hidMk hbw.out.size
    by_cases hj : j < k
    · have q0 : (j : Int) < (k : Int) := by omega
      have hb := hin j
      have hs := HS.out j
      have hls := HLS.out j
      have HC := hidMk (dg_cases (LF j) D hu.1)
      generalize hl : LF j = L at *
      generalize hdd : dg L D = C at *
      generalize hnn : nx L D = NX at *
      rcases HC.out with ⟨h1, rfl, h3⟩ | ⟨h1, h2, rfl, h3⟩ | ⟨h1, h2, rfl, h3⟩
      · have HN : Hid (DL (j + 1) = DL j ++ [1] ∧ LF (j + 1) = 2 * L - D) := ⟨hs, by rw [hls, h3]⟩
        have q1 : decide (2 * (2 * L) > D) = true := by simpa using h1
        have q2 : decide (2 * (2 * L) < -D) = false := by simp; omega
        clear hs hls HC h3 hdd hnn hl
        go_wp2_with (at_builtin; refine wpList_append_own _ rfl _ _ 52 rfl w.heap.size 3 i0 _ 1 8 Tryz.underlying52 Hi.out Hz.out Hz1.out Hz2.out rfl (by decide) _ _ _ rfl (hown.out.alloc _) ⟨wr.heap.size, 0, none⟩ 1 1 [.int .i64 (1)] rfl rfl (ic_new wr (1)) (ic_one _) (by unfold maxLen; omega) (by omega) (by have := HSZ.out; simp; omega) ?_; intro v' w3 hown' hgrow3 hnil3)
        go_roundg (k - (j + 1))
        case measure => have := hg.out; omega
        case rel => exact ⟨j + 1, rfl, by rw [HN.out.2], hidMk (by have := hown'; rw [HN.out.1]; simpa [iC] using this), by omega, rfl, Below.grown (hbw.out.alloc HSZ.out _) hgrow3 (by have := HSZ.out; simp; omega) (fun i hi => (hown.out.lt _ hi).1)⟩
      · have HN : Hid (DL (j + 1) = DL j ++ [-1] ∧ LF (j + 1) = 2 * L + D) := ⟨hs, by rw [hls, h3]⟩
        have q1 : decide (2 * (2 * L) > D) = false := by simpa using h1
        have q2 : decide (2 * (2 * L) < -D) = true := by simpa using h2
        clear hs hls HC h3 hdd hnn hl
        go_wp2_with (at_builtin; refine wpList_append_own _ rfl _ _ 52 rfl w.heap.size 3 i0 _ 1 8 Tryz.underlying52 Hi.out Hz.out Hz1.out Hz2.out rfl (by decide) _ _ _ rfl (hown.out.alloc _) ⟨wr.heap.size, 0, none⟩ 1 1 [.int .i64 (-1)] rfl rfl (ic_new wr (-1)) (ic_one _) (by unfold maxLen; omega) (by omega) (by have := HSZ.out; simp; omega) ?_; intro v' w3 hown' hgrow3 hnil3)
        go_roundg (k - (j + 1))
        case measure => have := hg.out; omega
        case rel => exact ⟨j + 1, rfl, by rw [HN.out.2], hidMk (by have := hown'; rw [HN.out.1]; simpa [iC] using this), by omega, rfl, Below.grown (hbw.out.alloc HSZ.out _) hgrow3 (by have := HSZ.out; simp; omega) (fun i hi => (hown.out.lt _ hi).1)⟩
      · have HN : Hid (DL (j + 1) = DL j ++ [0] ∧ LF (j + 1) = 2 * L) := ⟨hs, by rw [hls, h3]⟩
        have q1 : decide (2 * (2 * L) > D) = false := by simpa using h1
        have q2 : decide (2 * (2 * L) < -D) = false := by simpa using h2
        clear hs hls HC h3 hdd hnn hl
        go_wp2_with (at_builtin; refine wpList_append_own _ rfl _ _ 52 rfl w.heap.size 3 i0 _ 1 8 Tryz.underlying52 Hi.out Hz.out Hz1.out Hz2.out rfl (by decide) _ _ _ rfl (hown.out.alloc _) ⟨wr.heap.size, 0, none⟩ 1 1 [.int .i64 (0)] rfl rfl (ic_new wr (0)) (ic_one _) (by unfold maxLen; omega) (by omega) (by have := HSZ.out; simp; omega) ?_; intro v' w3 hown' hgrow3 hnil3)
        go_roundg (k - (j + 1))
        case measure => have := hg.out; omega
        case rel => exact ⟨j + 1, rfl, by rw [HN.out.2], hidMk (by have := hown'; rw [HN.out.1]; simpa [iC] using this), by omega, rfl, Below.grown (hbw.out.alloc HSZ.out _) hgrow3 (by have := HSZ.out; simp; omega) (fun i hi => (hown.out.lt _ hi).1)⟩
    · have hjk2 : j = k := by omega
      subst hjk2
      go_wp2_with fail
      go_ret
      exact ⟨_, rfl, hown.out, hbw.out⟩
end Go.Proofs.YtodabmkcihafhaaGreatDoor

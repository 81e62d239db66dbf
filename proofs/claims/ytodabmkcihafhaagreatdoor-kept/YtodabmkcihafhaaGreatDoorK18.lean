import Derived.Stop.FmtRuneSmall
import Derived.Deep.AppendLies
import Derived.Test.YtodabmkcihafhaaGreatDoorK17
import Derived.Test.YtodabmkcihafhaaGreatDoorK11
import Derived.Test.YtodabmkcihafhaaGreatDoorK5

/- The program's parser: its rows. -/
namespace Go.Proofs.YtodabmkcihafhaaGreatDoor
open Go.RowKit
set_option linter.unusedVariables false

/-- What a call of the parser leaves, held against a reading. -/
def PPost (p : Nat) (w : World) (R : Res) (e : Ending) (w' : World) : Prop :=
  ∃ v, e = .returned (.tuple #[v, .bool R.ok]) ∧ IsI v ∧ PSt p R.ts w' ∧ w.grownBy w' (some p) ∧ (R.ok = true → v = den R.L R.k)
def CSum (p f : Nat) : Prop := ∀ (ts : List Tok) (L : List Nd) (w : World), 10 * ts.length + 6 ≤ f → WfL L → PSt p ts w → Calls Tryz.prog 77 #[.pointer (some ⟨p, 0, none⟩)] w (PPost p w (pp f 0 0 ts L))
def CPrd (p f : Nat) : Prop := ∀ (ts : List Tok) (L : List Nd) (w : World), 10 * ts.length + 4 ≤ f → WfL L → PSt p ts w → Calls Tryz.prog 114 #[.pointer (some ⟨p, 0, none⟩)] w (PPost p w (pp f 1 0 ts L))
def CFct (p f : Nat) : Prop := ∀ (ts : List Tok) (L : List Nd) (w : World), 10 * ts.length + 2 ≤ f → WfL L → PSt p ts w → Calls Tryz.prog 143 #[.pointer (some ⟨p, 0, none⟩)] w (PPost p w (pp f 2 0 ts L))
def CPrm (p f : Nat) : Prop := ∀ (ts : List Tok) (L : List Nd) (w : World), 10 * ts.length + 1 ≤ f → WfL L → PSt p ts w → Calls Tryz.prog 153 #[.pointer (some ⟨p, 0, none⟩)] w (PPost p w (pp f 3 0 ts L))

set_option maxHeartbeats 1000000 in
theorem join_sum (a b : Value) (c : Int) (q : Nat) (w : World) (ha : IsI a) (hb : IsI b) :
    Calls Tryz.prog 115 #[a, .agg #[.int .i32 c, .int .i64 q], b] w fun e w' => e = .returned (.iface 194 (.agg #[a, .int .i32 c, .int .i64 q, b])) ∧ Below w.heap.size w w' := by
  rcases ha with rfl | ⟨T, x, rfl⟩ <;> rcases hb with rfl | ⟨U, y, rfl⟩
  all_goals
    go_enter Tryz.func115, Tryz.ntmps115
    go_wp2_with fail
    go_ret
    exact ⟨rfl, (Below.refl _ w).alloc (Nat.le_refl _) _⟩
set_option maxHeartbeats 1000000 in
theorem join_prd (a b : Value) (c : Int) (q : Nat) (w : World) (ha : IsI a) (hb : IsI b) :
    Calls Tryz.prog 144 #[a, .agg #[.int .i32 c, .int .i64 q], b] w fun e w' => e = .returned (.iface 193 (.agg #[a, .int .i32 c, .int .i64 q, b])) ∧ Below w.heap.size w w' := by
  rcases ha with rfl | ⟨T, x, rfl⟩ <;> rcases hb with rfl | ⟨U, y, rfl⟩
  all_goals
    go_enter Tryz.func144, Tryz.ntmps144
    go_wp2_with fail
    go_ret
    exact ⟨rfl, (Below.refl _ w).alloc (Nat.le_refl _) _⟩

/-- A row between two rounds. -/
def RowQ (p : Nat) (w0 : World) (R : Res) (tag fmax g : Nat) (v : Value) (okb : Bool) (wr : World) : Prop :=
  ∃ (ts' : List Tok), IsI v ∧ PSt p ts' wr ∧ w0.grownBy wr (some p) ∧ ((okb = true ∧ ∃ L' k, v = den L' k ∧ k < L'.length ∧ WfL L' ∧ pp g tag k ts' L' = R ∧ 10 * ts'.length + 5 ≤ g ∧ g ≤ fmax) ∨ (okb = false ∧ R.ok = false ∧ R.ts = ts'))
theorem RowQ.start {p : Nat} {w w1 : World} {R R1 : Res} {tag f : Nat} {v : Value} (hR : R = if R1.ok = true then pp f tag R1.k R1.ts R1.L else R1) (hI : IsI v) (hP : PSt p R1.ts w1) (hB : w.grownBy w1 (some p)) (hv : R1.ok = true → v = den R1.L R1.k)
    (hlen : R1.ok = true → 10 * R1.ts.length + 5 ≤ f ∧ WfL R1.L ∧ R1.k < R1.L.length) : RowQ p w R tag f f v R1.ok w1 := by
  refine ⟨R1.ts, hI, hP, hB, ?_⟩
  by_cases h : R1.ok = true
  · rw [if_pos h] at hR
    exact Or.inl ⟨h, R1.L, R1.k, hv h, (hlen h).2.2, (hlen h).2.1, hR.symm, (hlen h).1, Nat.le_refl _⟩
  · rw [if_neg h] at hR
    subst hR
    exact Or.inr ⟨by simpa using h, by simpa using h, rfl⟩

/-- A round behind a round. -/
theorem RowQ.next {p : Nat} {w w5 : World} {R sub : Res} {tag fmax g k j : Nat} {c : Int} {v5 : Value} {L2 : List Nd} {v : Value}
    (hQ : (if sub.ok = true then pp g tag sub.L.length sub.ts (sub.L ++ [opNd c k sub.k j]) else sub) = R) (hP : PSt p sub.ts w5) (hB : w.grownBy w5 (some p)) (hv5 : sub.ok = true → v5 = den sub.L sub.k) (hv : v = den L2 k) (hk : k < L2.length) (hw2 : WfL L2)
    (hpre : ∃ M, sub.L = L2 ++ M) (hc : isBin c = true) (hc0 : 0 ≤ c) (hc1 : c < 55296) (hlen : sub.ok = true → 10 * sub.ts.length + 5 ≤ g ∧ WfL sub.L ∧ sub.k < sub.L.length) (hg : g ≤ fmax) (T : TypeId) (x : Value) (V : Value)
    (hV : V = .iface T x) (hVn : sub.ok = true → V = nodeD (opNd c k sub.k j) v v5) : RowQ p w R tag fmax g V sub.ok w5 := by
  refine ⟨sub.ts, Or.inr ⟨T, x, hV⟩, hP, hB, ?_⟩
  by_cases h : sub.ok = true
  · rw [if_pos h] at hQ
    obtain ⟨l1, l2, l3⟩ := hlen h
    obtain ⟨M, hM⟩ := hpre
    have hk2 : k < sub.L.length := by rw [hM]; simp; omega
    have wn : WfN sub.L.length (opNd c k sub.k j) := wf_bin hc0 hc1 hk2 l3
    refine Or.inl ⟨h, sub.L ++ [opNd c k sub.k j], sub.L.length, ?_, by simp, l2.snoc wn, hQ, l1, hg⟩
    rw [den_last sub.L _ l2 wn, hVn h, hv, hv5 h]
    congr 1
    show den L2 k = den sub.L k
    rw [hM]
    exact (den_append L2 M k hw2 hk).symm
  · rw [if_neg h] at hQ
    subst hQ
    exact Or.inr ⟨by simpa using h, by simpa using h, rfl⟩
theorem row0_iff (h : Int) : inRow 0 h = true ↔ h = 43 ∨ h = 8722 := by simp [inRow]
theorem row1_iff (h : Int) : inRow 1 h = true ↔ h = 215 ∨ h = 247 := by simp [inRow]
theorem nodeD_sum {c : Int} (h : c = 43 ∨ c = 8722) (k j l : Nat) (a b : Value) : nodeD (opNd c k j l) a b = .iface 194 (.agg #[a, .int .i32 c, .int .i64 l, b]) := by
  unfold nodeD opNd
  simp only
  rw [if_pos h]
theorem nodeD_prd {c : Int} (h : c = 215 ∨ c = 247) (k j l : Nat) (a b : Value) : nodeD (opNd c k j l) a b = .iface 193 (.agg #[a, .int .i32 c, .int .i64 l, b]) := by
  unfold nodeD opNd
  simp only
  rw [if_neg (by omega), if_pos h]

set_option maxHeartbeats 2000000 in
set_option maxRecDepth 100000 in
theorem sumRow_step (p f : Nat) (ih : ∀ g, g ≤ f → CPrd p g) (ts : List Tok) (L : List Nd) (w : World) (hf : 10 * ts.length + 6 ≤ f + 1) (hw : WfL L) (h : PSt p ts w) :
    Calls Tryz.prog 113 #[.pointer (some ⟨p, 0, none⟩), .func (Fn.func 114) #[.pointer (some ⟨p, 0, none⟩)] #[], .string ⟨#[43, 226, 136, 146]⟩, .func (Fn.func 115) #[] #[]] w (PPost p w (pp (f + 1) 0 0 ts L)) := by
  have R1 : Hid (pp (f + 1) 0 0 ts L = if (pp f 1 0 ts L).ok = true then pp f 4 (pp f 1 0 ts L).k (pp f 1 0 ts L).ts (pp f 1 0 ts L).L else pp f 1 0 ts L) := by show _ = _; simp only [pp]
  generalize pp (f + 1) 0 0 ts L = R at *
  have IH : Hid (∀ g, g ≤ f → CPrd p g) := ih
  clear ih
  go_enter Tryz.func113, Tryz.ntmps113
  go_wp2_with fail
  refine (IH.out f (Nat.le_refl _) ts L _ (by omega) hw h).mono ?_
  rintro e w1 ⟨v1, rfl, hI1, hP1, hb1, hv1⟩
  have hQ : RowQ p w R 4 f f v1 (pp f 1 0 ts L).ok w1 := by
    have pi := pp_inv f 1 0 ts L
    refine RowQ.start R1.out hI1 hP1 hb1 hv1 (fun ho => ?_)
    have a1 := pi.lt ho (by decide)
    exact ⟨by omega, (pp_size f 1 0 ts L hw (by omega) ho).wf, pi.kk ho (Or.inl (by decide))⟩
  clear hI1 hP1 hb1 hv1 R1
  generalize (pp f 1 0 ts L).ok = ok1 at *
  go_wp2_with fail
  go_loopg [10, 11] f (fun g s10 s11 wr => ∃ (v : Value) (okb : Bool), s10 = v ∧ s11 = .bool okb ∧ RowQ p w R 4 f g v okb wr)
  case atStart => exact ⟨v1, ok1, rfl, rfl, hQ⟩
  case round =>
    clear hQ h
    obtain ⟨v, okb, rfl, rfl, ts2, hI, hP, hb, hcase⟩ := hrel
    rcases hcase with ⟨rfl, L2, k, hv, hk, hw2, hpp, hg, hgf⟩ | ⟨rfl, ho, hts⟩
    · have HV : Hid (u10 = den L2 k) := hv
      have HP : Hid (pp gk 4 k ts2 L2 = R) := hpp
      clear hv hpp
      have hr := hP.endOk.2.hd
      go_wp2_with fail
      refine (ahead_any p ts2 _ hP).mono ?_
      rintro e w2 ⟨rfl, hw2e⟩
      subst hw2e
      go_wp2_with fail
      refine (contains_sum (hd ts2) _ hr.1 hr.2).mono ?_
      rintro e w3 ⟨rfl, hb3⟩
      have hP3 := hP.above hb3
      have hb03 : w.grownBy w3 (some p) := gb_below hb hb3
      clear hP hb hb3
      obtain ⟨g, rfl⟩ : ∃ g, gk = g + 1 := ⟨gk - 1, by omega⟩
      by_cases hm : inRow 0 (hd ts2) = true
      · have hm2 := (row0_iff _).1 hm
        have hne : hd ts2 ≠ -1 := by omega
        have hlt2 := (hP3.endOk.1.tail hne).2
        have HQ : Hid ((if (pp g 1 0 ts2.tail L2).ok = true then pp g 4 (pp g 1 0 ts2.tail L2).L.length (pp g 1 0 ts2.tail L2).ts ((pp g 1 0 ts2.tail L2).L ++ [opNd (hd ts2) k (pp g 1 0 ts2.tail L2).k (hp ts2)]) else pp g 1 0 ts2.tail L2) = R) := by
          have := HP.out
          simp only [pp] at this
          rw [if_pos hm] at this
          exact this
        have htl : ts2.tail.length + 1 = ts2.length := by simp; omega
        have HM : Hid (hd ts2 = 43 ∨ hd ts2 = 8722) := hm2
        clear HP hm2
        go_wp2_with fail
        refine (take_any p ts2 _ hP3 hne).mono ?_
        rintro e w4 ⟨rfl, hP4, v4, hv4⟩
        have hb4 : w.grownBy w4 (some p) := gb_trans hb03 v4
        clear hv4 hP3 hb03
        have hlt4 := hP4.lt
        obtain ⟨W4, hW4⟩ : ∃ W4, W4 = w4.alloc (.cells #[.int .i32 (hd ts2), .int .i64 (hp ts2)] 174) := ⟨_, rfl⟩
        have hP4' : PSt p ts2.tail W4 := hP4.above (by rw [hW4]; exact (Below.refl _ w4).alloc (Nat.le_refl _) _)
        have hb4' : w.grownBy W4 (some p) := by rw [hW4]; exact gb_alloc hb4 _
        have hS4 : W4.heap[w4.heap.size]? = some (.cells #[.int .i32 (hd ts2), .int .i64 (hp ts2)] 174 (0, 0)) := by rw [hW4]; exact heap_alloc_new w4 _
        have HW4 : Hid (W4 = w4.alloc (.cells #[.int .i32 (hd ts2), .int .i64 (hp ts2)] 174)) := hW4
        clear hW4 hP4 hb4
        go_wp2_with fail
        rw [← HW4.out]
        refine (IH.out g (by omega) ts2.tail L2 _ (by omega) hw2 hP4').mono ?_
        rintro e w5 ⟨v5, rfl, hI5, hP5, hb5, hv5⟩
        have H5 : Hid ((pp g 1 0 ts2.tail L2).ok = true → v5 = den (pp g 1 0 ts2.tail L2).L (pp g 1 0 ts2.tail L2).k) := hv5
        clear hv5
        have hS5 : w5.heap[w4.heap.size]? = some (.cells #[.int .i32 (hd ts2), .int .i64 (hp ts2)] 174 (0, 0)) := (hb5.block _ (Array.getElem?_eq_some_iff.1 hS4).1 (by simp; omega)).trans hS4
        have s0 : w5.cell? ⟨w4.heap.size, 0, none⟩ = some (.int .i32 (hd ts2)) := by simp [World.cell?, hS5]
        have s1 : w5.cell? ⟨w4.heap.size, 1, none⟩ = some (.int .i64 (hp ts2)) := by simp [World.cell?, hS5]
        clear hS4 hS5
        go_wp2_with fail
        refine (join_sum _ v5 (hd ts2) (hp ts2) _ hI hI5).mono ?_
        rintro e w6 ⟨rfl, hb6⟩
        have hP6 := hP5.above hb6
        have hb56 := gb_below (gb_trans hb4' hb5) hb6
        clear hP5 hb6
        go_wp2_with fail
        go_roundg g
        case measure => omega
        case rel =>
          refine ⟨_, _, rfl, rfl, ?_⟩
          have pi := pp_inv g 1 0 ts2.tail L2
          have hm2 := HM.out
          exact RowQ.next HQ.out hP6 hb56 H5.out HV.out hk hw2 pi.pre (by unfold isBin; rcases hm2 with e | e <;> simp [e]) (by omega) (by omega) (fun ho => ⟨by have := pi.lt ho (by decide); omega, (pp_size g 1 0 ts2.tail L2 hw2 (by omega) ho).wf, pi.kk ho (Or.inl (by decide))⟩) (by omega) _ _ _ rfl (fun _ => (nodeD_sum hm2 _ _ _ _ _).symm)
      · have hm2 : inRow 0 (hd ts2) = false := by simpa using hm
        have HQ : Hid (R = ⟨true, k, L2, ts2⟩) := by
          have := HP.out
          simp only [pp] at this
          rw [if_neg hm] at this
          exact this.symm
        clear HP
        go_wp2_with fail
        go_ret2
        rw [HQ.out]
        exact ⟨_, rfl, hI, hP3, hb03, fun _ => HV.out⟩
    · have HO : Hid (R.ok = false ∧ R.ts = ts2) := ⟨ho, hts⟩
      clear ho hts
      go_wp2_with fail
      go_ret2
      obtain ⟨o1, o2⟩ := HO.out
      refine ⟨_, by rw [o1]; rfl, hI, by rw [o2]; exact hP, hb, fun h => by rw [o1] at h; cases h⟩
end Go.Proofs.YtodabmkcihafhaaGreatDoor

/- The program's parser: products, factors, primaries; all of it. -/
namespace Go.Proofs.YtodabmkcihafhaaGreatDoor
open Go.RowKit
set_option linter.unusedVariables false

set_option maxHeartbeats 2000000 in
set_option maxRecDepth 100000 in
theorem prdRow_step (p f : Nat) (ih : ∀ g, g ≤ f → CFct p g) (ts : List Tok) (L : List Nd) (w : World) (hf : 10 * ts.length + 4 ≤ f + 1) (hw : WfL L) (h : PSt p ts w) :
    Calls Tryz.prog 113 #[.pointer (some ⟨p, 0, none⟩), .func (Fn.func 143) #[.pointer (some ⟨p, 0, none⟩)] #[], .string ⟨#[195, 151, 195, 183]⟩, .func (Fn.func 144) #[] #[]] w (PPost p w (pp (f + 1) 1 0 ts L)) := by
  have R1 : Hid (pp (f + 1) 1 0 ts L = if (pp f 2 0 ts L).ok = true then pp f 5 (pp f 2 0 ts L).k (pp f 2 0 ts L).ts (pp f 2 0 ts L).L else pp f 2 0 ts L) := by show _ = _; simp only [pp]
  generalize pp (f + 1) 1 0 ts L = R at *
  have IH : Hid (∀ g, g ≤ f → CFct p g) := ih
  clear ih
  go_enter Tryz.func113, Tryz.ntmps113
  go_wp2_with fail
  refine (IH.out f (Nat.le_refl _) ts L _ (by omega) hw h).mono ?_
  rintro e w1 ⟨v1, rfl, hI1, hP1, hb1, hv1⟩
  have hQ : RowQ p w R 5 f f v1 (pp f 2 0 ts L).ok w1 := by
    have pi := pp_inv f 2 0 ts L
    refine RowQ.start R1.out hI1 hP1 hb1 hv1 (fun ho => ?_)
    have a1 := pi.lt ho (by decide)
    exact ⟨by omega, (pp_size f 2 0 ts L hw (by omega) ho).wf, pi.kk ho (Or.inl (by decide))⟩
  clear hI1 hP1 hb1 hv1 R1
  generalize (pp f 2 0 ts L).ok = ok1 at *
  go_wp2_with fail
  go_loopg [10, 11] f (fun g s10 s11 wr => ∃ (v : Value) (okb : Bool), s10 = v ∧ s11 = .bool okb ∧ RowQ p w R 5 f g v okb wr)
  case atStart => exact ⟨v1, ok1, rfl, rfl, hQ⟩
  case round =>
    clear hQ h
    obtain ⟨v, okb, rfl, rfl, ts2, hI, hP, hb, hcase⟩ := hrel
    rcases hcase with ⟨rfl, L2, k, hv, hk, hw2, hpp, hg, hgf⟩ | ⟨rfl, ho, hts⟩
    · have HV : Hid (u10 = den L2 k) := hv
      have HP : Hid (pp gk 5 k ts2 L2 = R) := hpp
      clear hv hpp
      have hr := hP.endOk.2.hd
      go_wp2_with fail
      refine (ahead_any p ts2 _ hP).mono ?_
      rintro e w2 ⟨rfl, hw2e⟩
      subst hw2e
      go_wp2_with fail
      refine (contains_prod (hd ts2) _ hr.1 hr.2).mono ?_
      rintro e w3 ⟨rfl, hb3⟩
      have hP3 := hP.above hb3
      have hb03 : w.grownBy w3 (some p) := gb_below hb hb3
      clear hP hb hb3
      obtain ⟨g, rfl⟩ : ∃ g, gk = g + 1 := ⟨gk - 1, by omega⟩
      by_cases hm : inRow 1 (hd ts2) = true
      · have hm2 := (row1_iff _).1 hm
        have hne : hd ts2 ≠ -1 := by omega
        have hlt2 := (hP3.endOk.1.tail hne).2
        have HQ : Hid ((if (pp g 2 0 ts2.tail L2).ok = true then pp g 5 (pp g 2 0 ts2.tail L2).L.length (pp g 2 0 ts2.tail L2).ts ((pp g 2 0 ts2.tail L2).L ++ [opNd (hd ts2) k (pp g 2 0 ts2.tail L2).k (hp ts2)]) else pp g 2 0 ts2.tail L2) = R) := by
          have := HP.out
          simp only [pp] at this
          rw [if_pos hm] at this
          exact this
        have htl : ts2.tail.length + 1 = ts2.length := by simp; omega
        have HM : Hid (hd ts2 = 215 ∨ hd ts2 = 247) := hm2
        clear HP hm2
        go_wp2_with fail
        refine (take_any p ts2 _ hP3 hne).mono ?_
        rintro e w4 ⟨rfl, hP4, v4, hv4⟩
        have hb4 : w.grownBy w4 (some p) := gb_trans hb03 v4
        clear hv4 hP3 hb03
        have hlt4 := hP4.lt
        obtain ⟨W4, hW4⟩ : ∃ W4, W4 = w4.alloc (.cells #[.int .i32 (hd ts2), .int .i64 (hp ts2)] 174) := ⟨_, rfl⟩
        have hP4' : PSt p ts2.tail W4 := hP4.above (by rw [hW4]; exact (Below.refl _ w4).alloc (Nat.le_refl _) _)
        have hb4' : w.grownBy W4 (some p) := by rw [hW4]; exact gb_alloc hb4 _
        have hS4 : W4.heap[w4.heap.size]? = some (.cells #[.int .i32 (hd ts2), .int .i64 (hp ts2)] 174 (0, 0)) := by rw [hW4]; exact heap_alloc_new w4 _
        have HW4 : Hid (W4 = w4.alloc (.cells #[.int .i32 (hd ts2), .int .i64 (hp ts2)] 174)) := hW4
        clear hW4 hP4 hb4
        go_wp2_with fail
        rw [← HW4.out]
        refine (IH.out g (by omega) ts2.tail L2 _ (by omega) hw2 hP4').mono ?_
        rintro e w5 ⟨v5, rfl, hI5, hP5, hb5, hv5⟩
        have H5 : Hid ((pp g 2 0 ts2.tail L2).ok = true → v5 = den (pp g 2 0 ts2.tail L2).L (pp g 2 0 ts2.tail L2).k) := hv5
        clear hv5
        have hS5 : w5.heap[w4.heap.size]? = some (.cells #[.int .i32 (hd ts2), .int .i64 (hp ts2)] 174 (0, 0)) := (hb5.block _ (Array.getElem?_eq_some_iff.1 hS4).1 (by simp; omega)).trans hS4
        have s0 : w5.cell? ⟨w4.heap.size, 0, none⟩ = some (.int .i32 (hd ts2)) := by simp [World.cell?, hS5]
        have s1 : w5.cell? ⟨w4.heap.size, 1, none⟩ = some (.int .i64 (hp ts2)) := by simp [World.cell?, hS5]
        clear hS4 hS5
        go_wp2_with fail
        refine (join_prd _ v5 (hd ts2) (hp ts2) _ hI hI5).mono ?_
        rintro e w6 ⟨rfl, hb6⟩
        have hP6 := hP5.above hb6
        have hb56 := gb_below (gb_trans hb4' hb5) hb6
        clear hP5 hb6
        go_wp2_with fail
        go_roundg g
        case measure => omega
        case rel =>
          refine ⟨_, _, rfl, rfl, ?_⟩
          have pi := pp_inv g 2 0 ts2.tail L2
          have hm2 := HM.out
          exact RowQ.next HQ.out hP6 hb56 H5.out HV.out hk hw2 pi.pre (by unfold isBin; rcases hm2 with e | e <;> simp [e]) (by omega) (by omega) (fun ho => ⟨by have := pi.lt ho (by decide); omega, (pp_size g 2 0 ts2.tail L2 hw2 (by omega) ho).wf, pi.kk ho (Or.inl (by decide))⟩) (by omega) _ _ _ rfl (fun _ => (nodeD_prd hm2 _ _ _ _ _).symm)
      · have hm2 : inRow 1 (hd ts2) = false := by simpa using hm
        have HQ : Hid (R = ⟨true, k, L2, ts2⟩) := by
          have := HP.out
          simp only [pp] at this
          rw [if_neg hm] at this
          exact this.symm
        clear HP
        go_wp2_with fail
        go_ret2
        rw [HQ.out]
        exact ⟨_, rfl, hI, hP3, hb03, fun _ => HV.out⟩
    · have HO : Hid (R.ok = false ∧ R.ts = ts2) := ⟨ho, hts⟩
      clear ho hts
      go_wp2_with fail
      go_ret2
      obtain ⟨o1, o2⟩ := HO.out
      refine ⟨_, by rw [o1]; rfl, hI, by rw [o2]; exact hP, hb, fun h => by rw [o1] at h; cases h⟩

theorem sum_step (p f : Nat) (ih : ∀ g, g ≤ f → CPrd p g) : CSum p (f + 1) := by
  intro ts L w hf hw h
  have c := sumRow_step p f ih ts L w hf hw h
  generalize pp (f + 1) 0 0 ts L = R at *
  go_enter Tryz.func77, Tryz.ntmps77
  go_wp2_with fail
  refine c.mono ?_
  rintro e w1 ⟨v, rfl, h1, h2, h3, h4⟩
  have H4 : Hid (R.ok = true → v = den R.L R.k) := h4
  clear h4
  go_wp2_with fail
  go_ret2
  exact ⟨v, rfl, h1, h2, h3, H4.out⟩
theorem prd_step (p f : Nat) (ih : ∀ g, g ≤ f → CFct p g) : CPrd p (f + 1) := by
  intro ts L w hf hw h
  have c := prdRow_step p f ih ts L w hf hw h
  generalize pp (f + 1) 1 0 ts L = R at *
  go_enter Tryz.func114, Tryz.ntmps114
  go_wp2_with fail
  refine c.mono ?_
  rintro e w1 ⟨v, rfl, h1, h2, h3, h4⟩
  have H4 : Hid (R.ok = true → v = den R.L R.k) := h4
  clear h4
  go_wp2_with fail
  go_ret2
  exact ⟨v, rfl, h1, h2, h3, H4.out⟩

theorem mark_iff (h : Int) : isMk h = true ↔ h = 178 ∨ h = 8242 := by simp [isMk]
theorem nodeD_neg (k j l : Nat) (a b : Value) : nodeD (opNd 110 k j l) a b = .iface 191 (.agg #[a]) := by
  unfold nodeD opNd
  simp
theorem nodeD_mark {c : Int} (h : c = 178 ∨ c = 8242) (k j l : Nat) (a b : Value) : nodeD (opNd c k j l) a b = .iface 187 (.agg #[a, .int .i32 c, .int .i64 l]) := by
  unfold nodeD opNd
  simp only
  rw [if_neg (by omega), if_neg (by omega), if_neg (by omega), if_pos h]
theorem nodeD_num (ts : List Tok) (a b : Value) : nodeD (numNd ts) a b = .iface 178 (.agg #[.string (encAll (numT ts).1)]) := by
  unfold nodeD numNd
  simp
theorem nodeD_unit (k j l : Nat) (a b : Value) : nodeD (opNd 105 k j l) a b = .iface 183 (.agg #[]) := by
  unfold nodeD opNd
  simp
theorem nodeD_name {c : Int} (h : 945 ≤ c ∧ c ≤ 969) (k j l : Nat) (a b : Value) : nodeD (opNd c k j l) a b = .iface 185 (.agg #[.int .i32 c, .int .i64 l]) := by
  unfold nodeD opNd
  simp only
  rw [if_neg (by omega), if_neg (by omega), if_neg (by omega), if_neg (by omega), if_neg (by omega), if_neg (by omega)]

set_option maxHeartbeats 2000000 in
set_option maxRecDepth 100000 in
theorem fct_step (p f : Nat) (ih : ∀ g, g ≤ f → CFct p g) (ih3 : CPrm p f) : CFct p (f + 1) := by
  intro ts L w hf hw h
  have R1 : Hid (pp (f + 1) 2 0 ts L = if hd ts = 8722 then
        (if (pp f 2 0 ts.tail L).ok then ⟨true, (pp f 2 0 ts.tail L).L.length, (pp f 2 0 ts.tail L).L ++ [opNd 110 (pp f 2 0 ts.tail L).k 0 (hp ts)], (pp f 2 0 ts.tail L).ts⟩
         else pp f 2 0 ts.tail L)
      else if (pp f 3 0 ts L).ok then pp f 6 (pp f 3 0 ts L).k (pp f 3 0 ts L).ts (pp f 3 0 ts L).L else pp f 3 0 ts L) := by show _ = _; simp only [pp]
  generalize pp (f + 1) 2 0 ts L = R at *
  have IH : Hid (∀ g, g ≤ f → CFct p g) := ih
  clear ih
  go_enter Tryz.func143, Tryz.ntmps143
  go_wp2_with fail
  refine (ahead_any p ts _ h).mono ?_
  rintro e w1 ⟨rfl, hw1⟩
  have hw1 := hw1.symm
  subst hw1
  by_cases hm : hd ts = 8722
  · have b87 : (hd ts == 8722) = true := by simp [hm]
    have hne : hd ts ≠ -1 := by omega
    have hlt2 := (h.endOk.1.tail hne).2
    have htl : ts.tail.length + 1 = ts.length := by simp; omega
    have R2 : Hid (R = if (pp f 2 0 ts.tail L).ok then ⟨true, (pp f 2 0 ts.tail L).L.length, (pp f 2 0 ts.tail L).L ++ [opNd 110 (pp f 2 0 ts.tail L).k 0 (hp ts)], (pp f 2 0 ts.tail L).ts⟩ else pp f 2 0 ts.tail L) := by
      have := R1.out
      rw [if_pos hm] at this
      exact this
    clear R1 hm
    go_wp2_with fail
    refine (take_any p ts _ h hne).mono ?_
    rintro e w4 ⟨rfl, hP4, v4, hv4⟩
    have hb4 : w.grownBy w4 (some p) := v4
    clear hv4 h
    go_wp2_with fail
    refine (IH.out f (Nat.le_refl _) ts.tail L _ (by omega) hw hP4).mono ?_
    rintro e w5 ⟨v5, rfl, hI5, hP5, hb5, hv5⟩
    have H5 : Hid ((pp f 2 0 ts.tail L).ok = true → v5 = den (pp f 2 0 ts.tail L).L (pp f 2 0 ts.tail L).k) := hv5
    clear hv5
    have HE : Hid (∃ V, V = Value.iface 191 (.agg #[v5])) := ⟨_, rfl⟩
    have fin : PPost p w R (.returned (.tuple #[.iface 191 (.agg #[v5]), .bool (pp f 2 0 ts.tail L).ok])) w5 := by
      have pi := pp_inv f 2 0 ts.tail L
      by_cases ho : (pp f 2 0 ts.tail L).ok = true
      · have hR := R2.out
        rw [if_pos ho] at hR
        subst hR
        have wf1 := (pp_size f 2 0 ts.tail L hw (by omega) ho).wf
        have kk := pi.kk ho (Or.inl (by decide))
        have wn : WfN (pp f 2 0 ts.tail L).L.length (opNd 110 (pp f 2 0 ts.tail L).k 0 (hp ts)) := wf_un (by decide) (by decide) rfl kk
        refine ⟨_, by rw [ho], Or.inr ⟨_, _, rfl⟩, hP5, gb_trans hb4 hb5, fun _ => ?_⟩
        show _ = den ((pp f 2 0 ts.tail L).L ++ [opNd 110 (pp f 2 0 ts.tail L).k 0 (hp ts)]) (pp f 2 0 ts.tail L).L.length
        rw [den_last _ _ wf1 wn, nodeD_neg, H5.out ho]
        rfl
      · have hR := R2.out
        rw [if_neg ho] at hR
        subst hR
        exact ⟨_, rfl, Or.inr ⟨_, _, rfl⟩, hP5, gb_trans hb4 hb5, fun h => absurd h ho⟩
    have FIN : Hid (PPost p w R (.returned (.tuple #[.iface 191 (.agg #[v5]), .bool (pp f 2 0 ts.tail L).ok])) w5) := fin
    clear fin HE H5 hP5
    generalize (pp f 2 0 ts.tail L).ok = ok5 at *
    rcases hI5 with rfl | ⟨T, x, rfl⟩
    all_goals
      go_wp2_with fail
      go_ret2
      exact FIN.out
  · have b87 : (hd ts == 8722) = false := by simp [hm]
    have R2 : Hid (R = if (pp f 3 0 ts L).ok = true then pp f 6 (pp f 3 0 ts L).k (pp f 3 0 ts L).ts (pp f 3 0 ts L).L else pp f 3 0 ts L) := by
      have := R1.out
      rw [if_neg hm] at this
      exact this
    clear R1 hm
    go_wp2_with fail
    refine (ih3 ts L _ (by omega) hw h).mono ?_
    rintro e w1 ⟨v1, rfl, hI1, hP1, hb1, hv1⟩
    have hQ : RowQ p w R 6 f f v1 (pp f 3 0 ts L).ok w1 := by
      have pi := pp_inv f 3 0 ts L
      refine RowQ.start R2.out hI1 hP1 hb1 hv1 (fun ho => ?_)
      have a1 := pi.lt ho (by decide)
      exact ⟨by omega, (pp_size f 3 0 ts L hw (by omega) ho).wf, pi.kk ho (Or.inl (by decide))⟩
    clear hI1 hP1 hb1 hv1 R2 ih3
    generalize (pp f 3 0 ts L).ok = ok1 at *
    go_wp2_with fail
    go_loopg [6] f (fun g s6 wr => ∃ (v : Value), s6 = v ∧ RowQ p w R 6 f g v ok1 wr)
    case atStart => exact ⟨v1, rfl, hQ⟩
    case round =>
      clear hQ h
      obtain ⟨v, rfl, ts2, hI, hP, hb, hcase⟩ := hrel
      rcases hcase with ⟨rfl, L2, k, hv, hk, hw2, hpp, hg, hgf⟩ | ⟨rfl, ho, hts⟩
      · have HV : Hid (u6 = den L2 k) := hv
        have HP : Hid (pp gk 6 k ts2 L2 = R) := hpp
        clear hv hpp
        have hr := hP.endOk.2.hd
        go_wp2_with fail
        refine (ahead_any p ts2 _ hP).mono ?_
        rintro e w2 ⟨rfl, hw2e⟩
        subst hw2e
        go_wp2_with fail
        refine (isMark_any (hd ts2) _ hr.1 hr.2).mono ?_
        rintro e w3 ⟨rfl, hb3⟩
        have hP3 := hP.above hb3
        have hb03 : w.grownBy w3 (some p) := gb_below hb hb3
        clear hP hb hb3
        obtain ⟨g, rfl⟩ : ∃ g, gk = g + 1 := ⟨gk - 1, by omega⟩
        by_cases hm : isMk (hd ts2) = true
        · have hm2 := (mark_iff _).1 hm
          have hne : hd ts2 ≠ -1 := by omega
          have hlt2 := (hP3.endOk.1.tail hne).2
          have HQ : Hid (pp g 6 L2.length ts2.tail (L2 ++ [opNd (hd ts2) k 0 (hp ts2)]) = R) := by
            have := HP.out
            simp only [pp] at this
            rw [if_pos hm] at this
            exact this
          have htl : ts2.tail.length + 1 = ts2.length := by simp; omega
          have HM : Hid (hd ts2 = 178 ∨ hd ts2 = 8242) := hm2
          have wn : WfN L2.length (opNd (hd ts2) k 0 (hp ts2)) := wf_un (by omega) (by omega) (by unfold isBin; rcases hm2 with e | e <;> simp [e]) hk
          have FV : Hid (Value.iface 187 (.agg #[u6, .int .i32 (hd ts2), .int .i64 (hp ts2)]) = den (L2 ++ [opNd (hd ts2) k 0 (hp ts2)]) L2.length) := by
            show _ = _
            rw [den_last _ _ hw2 wn, nodeD_mark hm2, HV.out]
            rfl
          have WN : Hid (WfN L2.length (opNd (hd ts2) k 0 (hp ts2))) := wn
          clear HP hm2 wn HV
          go_wp2_with fail
          refine (take_any p ts2 _ hP3 hne).mono ?_
          rintro e w4 ⟨rfl, hP4, v4, hv4⟩
          have hb4 : w.grownBy w4 (some p) := gb_trans hb03 v4
          clear hv4 hP3 hb03
          rcases hI with rfl | ⟨T, x, rfl⟩
          all_goals
            go_wp2_with fail
            go_roundg g
            case measure => omega
            case rel => exact ⟨_, rfl, ts2.tail, Or.inr ⟨_, _, rfl⟩, hP4, hb4, Or.inl ⟨rfl, L2 ++ [opNd (hd ts2) k 0 (hp ts2)], L2.length, FV.out, by simp, hw2.snoc WN.out, HQ.out, by omega, by omega⟩⟩
        · have hm2 : isMk (hd ts2) = false := by simpa using hm
          have HQ : Hid (R = ⟨true, k, L2, ts2⟩) := by
            have := HP.out
            simp only [pp] at this
            rw [if_neg hm] at this
            exact this.symm
          clear HP
          go_wp2_with fail
          go_ret2
          rw [HQ.out]
          exact ⟨_, rfl, hI, hP3, hb03, fun _ => HV.out⟩
      · have HO : Hid (R.ok = false ∧ R.ts = ts2) := ⟨ho, hts⟩
        clear ho hts
        go_wp2_with fail
        go_ret2
        obtain ⟨o1, o2⟩ := HO.out
        refine ⟨_, by rw [o1]; rfl, hI, by rw [o2]; exact hP, hb, fun h => by rw [o1] at h; cases h⟩
end Go.Proofs.YtodabmkcihafhaaGreatDoor

/- The program's parser: primaries, and all by one induction; Parse. -/
namespace Go.Proofs.YtodabmkcihafhaaGreatDoor
open Go.RowKit
set_option linter.unusedVariables false

/-- What stands in brackets, as the reading has it. -/
def brRes (R : Res) : Res := if R.ok then (if hd R.ts = 41 then ⟨true, R.k, R.L, R.ts.tail⟩ else ⟨false, 0, R.L, R.ts⟩) else R

set_option maxHeartbeats 2000000 in
set_option maxRecDepth 100000 in
theorem bracketed_any (p f : Nat) (ih : CSum p f) (ts : List Tok) (L : List Nd) (w : World) (hf : 10 * ts.length + 6 ≤ f) (hw : WfL L) (h : PSt p ts w) :
    Calls Tryz.prog 167 #[.pointer (some ⟨p, 0, none⟩)] w (PPost p w (brRes (pp f 0 0 ts L))) := by
  have c := ih ts L w hf hw h
  generalize pp f 0 0 ts L = R at *
  go_enter Tryz.func167, Tryz.ntmps167
  go_wp2_with fail
  refine c.mono ?_
  rintro e w1 ⟨v, rfl, hI, hP, hb, hv⟩
  have HV : Hid (R.ok = true → v = den R.L R.k) := hv
  clear hv c h
  by_cases ho : R.ok = true
  · rw [ho]
    have HO : Hid (R.ok = true) := ho
    clear ho
    go_wp2_with fail
    refine (ahead_any p R.ts _ hP).mono ?_
    rintro e w2 ⟨rfl, hw2⟩
    have hw2 := hw2.symm
    subst hw2
    by_cases h41 : hd R.ts = 41
    · have b41 : (hd R.ts != 41) = false := by simp [h41]
      have H41 : Hid (hd R.ts = 41) := h41
      have hne : hd R.ts ≠ -1 := by omega
      clear h41
      go_wp2_with fail
      refine (take_any p R.ts _ hP hne).mono ?_
      rintro e w4 ⟨rfl, hP4, v4, hv4⟩
      have hb4 : w.grownBy w4 (some p) := gb_trans hb v4
      clear hv4
      go_wp2_with fail
      go_ret2
      rw [show brRes R = ⟨true, R.k, R.L, R.ts.tail⟩ by unfold brRes; rw [if_pos HO.out, if_pos H41.out]]
      exact ⟨v, rfl, hI, hP4, hb4, fun _ => HV.out HO.out⟩
    · have b41 : (hd R.ts != 41) = true := by simp [h41]
      have H41 : Hid (¬ hd R.ts = 41) := h41
      clear h41
      go_wp2_with fail
      go_ret2
      rw [show brRes R = ⟨false, 0, R.L, R.ts⟩ by unfold brRes; rw [if_pos HO.out, if_neg H41.out]]
      exact ⟨.nilIface, rfl, Or.inl rfl, hP, hb, fun h => by cases h⟩
  · have ho2 : R.ok = false := by simpa using ho
    rw [ho2]
    have HO : Hid (R.ok = false) := ho2
    clear ho ho2
    go_wp2_with fail
    go_ret2
    have o := HO.out
    rw [show brRes R = R by unfold brRes; rw [if_neg (by rw [o]; decide)]]
    exact ⟨.nilIface, by rw [o]; rfl, Or.inl rfl, hP, hb, fun h => by rw [o] at h; cases h⟩

set_option maxHeartbeats 2000000 in
set_option maxRecDepth 100000 in
theorem prm_step (p f : Nat) (ih : CSum p f) : CPrm p (f + 1) := by
  intro ts L w hf hw h
  have R1 : Hid (pp (f + 1) 3 0 ts L = (if isDig (hd ts) || isFrac (hd ts) then ⟨true, L.length, L ++ [numNd ts], (numT ts).2⟩
      else if hd ts = 105 ∨ isNm (hd ts) = true then ⟨true, L.length, L ++ [opNd (hd ts) 0 0 (hp ts)], ts.tail⟩
      else if hd ts = 40 then brRes (pp f 0 0 ts.tail L)
      else ⟨false, 0, L, ts⟩)) := by show _ = _; unfold brRes; simp only [pp]
  generalize pp (f + 1) 3 0 ts L = R at *
  have hr := h.endOk.2.hd
  go_enter Tryz.func153, Tryz.ntmps153
  go_wp2_with fail
  refine (ahead_any p ts _ h).mono ?_
  rintro e w1 ⟨rfl, hw1⟩
  have hw1 := hw1.symm
  subst hw1
  go_wp2_with fail
  refine (isDigit_any (hd ts) _).mono ?_
  rintro e w1 ⟨rfl, hw1⟩
  have hw1 := hw1.symm
  subst hw1
  by_cases hdg : isDig (hd ts) = true
  · have hc : (isDig (hd ts) || isFrac (hd ts)) = true := by rw [hdg]; rfl
    have wn : WfN L.length (numNd ts) := wf_leaf (by decide) (by decide) rfl rfl
    have HR : Hid (R = ⟨true, L.length, L ++ [numNd ts], (numT ts).2⟩) := by
      have := R1.out
      rw [if_pos hc] at this
      exact this
    have HD : Hid (den (L ++ [numNd ts]) L.length = .iface 178 (.agg #[.string (encAll (numT ts).1)])) := by
      show _ = _
      rw [den_last _ _ hw wn, nodeD_num]
    clear R1 wn
    go_wp2_with fail
    refine (pnumeral_any p ts _ h hc).mono ?_
    rintro e w2 ⟨rfl, hP2, hb2⟩
    go_wp2_with fail
    go_ret2
    rw [HR.out]
    exact ⟨_, rfl, Or.inr ⟨_, _, rfl⟩, hP2, hb2, fun _ => HD.out.symm⟩
  · have bdg : isDig (hd ts) = false := by simpa using hdg
    go_wp2_with fail
    refine (isFraction_any (hd ts) _ hr.1 hr.2).mono ?_
    rintro e w2 ⟨rfl, hb2⟩
    have h2 := h.above hb2
    have hb02 : w.grownBy w2 (some p) := gb_below (gb_refl w _) hb2
    clear h hb2
    by_cases hfr : isFrac (hd ts) = true
    · have hc : (isDig (hd ts) || isFrac (hd ts)) = true := by rw [hfr, Bool.or_true]
      have wn : WfN L.length (numNd ts) := wf_leaf (by decide) (by decide) rfl rfl
      have HR : Hid (R = ⟨true, L.length, L ++ [numNd ts], (numT ts).2⟩) := by
        have := R1.out
        rw [if_pos hc] at this
        exact this
      have HD : Hid (den (L ++ [numNd ts]) L.length = .iface 178 (.agg #[.string (encAll (numT ts).1)])) := by
        show _ = _
        rw [den_last _ _ hw wn, nodeD_num]
      clear R1 wn
      go_wp2_with fail
      refine (pnumeral_any p ts _ h2 hc).mono ?_
      rintro e w3 ⟨rfl, hP3, hb3⟩
      go_wp2_with fail
      go_ret2
      rw [HR.out]
      exact ⟨_, rfl, Or.inr ⟨_, _, rfl⟩, hP3, gb_trans hb02 hb3, fun _ => HD.out.symm⟩
    · have bfr : isFrac (hd ts) = false := by simpa using hfr
      have hnc : ¬ (isDig (hd ts) || isFrac (hd ts)) = true := by rw [bdg, bfr]; decide
      by_cases h105 : hd ts = 105
      · have b105 : (hd ts == 105) = true := by simp [h105]
        have hne : hd ts ≠ -1 := by omega
        have wn : WfN L.length (opNd (hd ts) 0 0 (hp ts)) := wf_leaf (by omega) (by omega) (by rw [h105]; rfl) (by rw [h105]; rfl)
        have HR : Hid (R = ⟨true, L.length, L ++ [opNd (hd ts) 0 0 (hp ts)], ts.tail⟩) := by
          have := R1.out
          rw [if_neg hnc, if_pos (Or.inl h105)] at this
          exact this
        have HD : Hid (den (L ++ [opNd (hd ts) 0 0 (hp ts)]) L.length = .iface 183 (.agg #[])) := by
          show _ = _
          rw [den_last _ _ hw wn, h105, nodeD_unit]
        clear R1 wn h105
        go_wp2_with fail
        refine (take_any p ts _ h2 hne).mono ?_
        rintro e w4 ⟨rfl, hP4, v4, hv4⟩
        have hb4 : w.grownBy w4 (some p) := gb_trans hb02 v4
        clear hv4
        go_wp2_with fail
        go_ret2
        rw [HR.out]
        exact ⟨_, rfl, Or.inr ⟨_, _, rfl⟩, hP4, hb4, fun _ => HD.out.symm⟩
      · have b105 : (hd ts == 105) = false := by simp [h105]
        go_wp2_with fail
        refine (isName_any (hd ts) _).mono ?_
        rintro e w3 ⟨rfl, hw3⟩
        have hw3 := hw3.symm
        subst hw3
        by_cases hnm : isNm (hd ts) = true
        · have hrg : 945 ≤ hd ts ∧ hd ts ≤ 969 := by unfold isNm at hnm; simpa using hnm
          have hne : hd ts ≠ -1 := by omega
          have wn : WfN L.length (opNd (hd ts) 0 0 (hp ts)) := wf_leaf (by omega) (by omega) (by unfold isBin; simp; omega) (by unfold isUn; simp; omega)
          have HR : Hid (R = ⟨true, L.length, L ++ [opNd (hd ts) 0 0 (hp ts)], ts.tail⟩) := by
            have := R1.out
            rw [if_neg hnc, if_pos (Or.inr hnm)] at this
            exact this
          have HD : Hid (den (L ++ [opNd (hd ts) 0 0 (hp ts)]) L.length = .iface 185 (.agg #[.int .i32 (hd ts), .int .i64 (hp ts)])) := by
            show _ = _
            rw [den_last _ _ hw wn, nodeD_name hrg]
          clear R1 wn
          go_wp2_with fail
          refine (take_any p ts _ h2 hne).mono ?_
          rintro e w4 ⟨rfl, hP4, v4, hv4⟩
          have hb4 : w.grownBy w4 (some p) := gb_trans hb02 v4
          clear hv4
          go_wp2_with fail
          go_ret2
          rw [HR.out]
          exact ⟨_, rfl, Or.inr ⟨_, _, rfl⟩, hP4, hb4, fun _ => HD.out.symm⟩
        · have bnm : isNm (hd ts) = false := by simpa using hnm
          have hnn : ¬ (hd ts = 105 ∨ isNm (hd ts) = true) := by rw [bnm]; simp [h105]
          by_cases h40 : hd ts = 40
          · have b40 : (hd ts == 40) = true := by simp [h40]
            have hne : hd ts ≠ -1 := by omega
            have hlt2 := (h2.endOk.1.tail hne).2
            have htl : ts.tail.length + 1 = ts.length := by simp; omega
            have HR : Hid (R = brRes (pp f 0 0 ts.tail L)) := by
              have := R1.out
              rw [if_neg hnc, if_neg hnn, if_pos h40] at this
              exact this
            clear R1 h40
            go_wp2_with fail
            refine (take_any p ts _ h2 hne).mono ?_
            rintro e w4 ⟨rfl, hP4, v4, hv4⟩
            have hb4 : w.grownBy w4 (some p) := gb_trans hb02 v4
            clear hv4
            go_wp2_with fail
            refine (bracketed_any p f ih ts.tail L _ (by omega) hw hP4).mono ?_
            generalize brRes (pp f 0 0 ts.tail L) = R5 at *
            rintro e w5 ⟨v5, rfl, hI5, hP5, hb5, hv5⟩
            have HV : Hid (R5.ok = true → v5 = den R5.L R5.k) := hv5
            clear hv5
            go_wp2_with fail
            go_ret2
            rw [HR.out]
            exact ⟨v5, rfl, hI5, hP5, gb_trans hb4 hb5, HV.out⟩
          · have b40 : (hd ts == 40) = false := by simp [h40]
            have HR : Hid (R = ⟨false, 0, L, ts⟩) := by
              have := R1.out
              rw [if_neg hnc, if_neg hnn, if_neg h40] at this
              exact this
            clear R1
            go_wp2_with fail
            go_ret2
            rw [HR.out]
            exact ⟨.nilIface, rfl, Or.inl rfl, h2, hb02, fun h => by cases h⟩

theorem par_all (p : Nat) : ∀ f g, g ≤ f → CSum p g ∧ CPrd p g ∧ CFct p g ∧ CPrm p g := by
  intro f
  induction f with
  | zero =>
    intro g hg
    obtain rfl : g = 0 := by omega
    refine ⟨?_, ?_, ?_, ?_⟩
    · intro ts L w h; omega
    · intro ts L w h; omega
    · intro ts L w h; omega
    · intro ts L w h; omega
  | succ f ih =>
    intro g hg
    by_cases hgf : g ≤ f
    · exact ih g hgf
    · obtain rfl : g = f + 1 := by omega
      exact ⟨sum_step p f (fun g h => (ih g h).2.1), prd_step p f (fun g h => (ih g h).2.2.1), fct_step p f (fun g h => (ih g h).2.2.1) (ih f (Nat.le_refl _)).2.2.2, prm_step p f (ih f (Nat.le_refl _)).1⟩

/-! ### Parse -/
theorem toksF_end (s : ByteArray) : ∀ (f i : Nat) (ap : Bool), EndOk (toksF s f i ap) ∧ RangeOk (toksF s f i ap) := by
  intro f
  induction f with
  | zero =>
    intro i ap
    refine ⟨⟨[], _, rfl, rfl⟩, ?_⟩
    intro t ht
    simp [toksF] at ht
    subst ht
    exact ⟨by simp, by simp⟩
  | succ f ih =>
    intro i ap
    simp only [toksF]
    split
    · split
      · exact ih _ _
      · obtain ⟨⟨pre, t, e, ht⟩, hr⟩ := ih (i + (Utf8.decode s i).2) false
        refine ⟨⟨_ :: pre, t, by rw [e]; rfl, ht⟩, ?_⟩
        intro t' ht'
        simp at ht'
        rcases ht' with rfl | ht'
        · have := decode_max s i
          simp only
          omega
        · exact hr t' ht'
    · refine ⟨⟨[], _, rfl, rfl⟩, ?_⟩
      intro t ht
      simp at ht
      subst ht
      exact ⟨by simp, by simp⟩
theorem tkCells_get : ∀ (L : List Tok) (k t : Nat) (n : Tok), L[k]? = some n → t < 3 → (tkCells L)[3 * k + t]? = n.cells[t]? := by
  intro L
  induction L with
  | nil => intro k t n h; simp at h
  | cons m r ih =>
    intro k t n h ht
    have hc : m.cells.length = 3 := rfl
    have e : tkCells (m :: r) = m.cells ++ tkCells r := by simp [tkCells]
    rw [e]
    cases k with
    | zero =>
      simp at h
      subst h
      rw [List.getElem?_append_left (by omega)]
      simp
    | succ k =>
      simp at h
      rw [List.getElem?_append_right (by omega), hc, show 3 * (k + 1) + t - 3 = 3 * k + t by omega]
      exact ih k t n h ht
/-- The parser, boxed behind the signs. -/
theorem PSt.new {w : World} {ts : List Tok} {B g cap : Nat} (hown : w.ownsRow B 176 3 (.slice (some ⟨g, 0, none⟩) ts.length cap) ts.length (tkCells ts)) (hg : g < w.heap.size) (he : EndOk ts) (hr : RangeOk ts) :
    PSt w.heap.size ts (w.alloc (.cells #[.slice (some ⟨g, 0, none⟩) ts.length cap] 169)) := by
  have hle : ts.length ≤ cap ∧ cap ≤ maxLen := by
    rcases hown.2 with ⟨h2, _⟩ | ⟨g', cap', cur, hv, hg, hh, r1, r2, _⟩
    · cases h2
    · injection hv with _ _ e; subst e; exact ⟨r1, r2⟩
  refine ⟨g, 0, cap, heap_alloc_new w _, hg, hle.1, hle.2, ?_, he, hr⟩
  intro j t ht
  have hj : j < ts.length := (List.getElem?_eq_some_iff.1 ht).1
  have q : ∀ x, x < 3 → (w.alloc (.cells #[.slice (some ⟨g, 0, none⟩) ts.length cap] 169)).cell? ⟨g, 3 * j + x, none⟩ = t.cells[x]? := by
    intro x hx
    rw [World.cell?_alloc_lt _ _ _ hg, World.ownsRow.cellAt hown (3 * j + x) (by omega)]
    exact tkCells_get ts j x t ht hx
  have q0 := q 0 (by decide)
  have q1 := q 1 (by decide)
  have q2 := q 2 (by decide)
  simp only [Nat.zero_add]
  exact ⟨q0, q1, q2⟩
end Go.Proofs.YtodabmkcihafhaaGreatDoor

/- The program's Parse. -/
namespace Go.Proofs.YtodabmkcihafhaaGreatDoor
open Go.RowKit
set_option linter.unusedVariables false

def parseR (s : ByteArray) : Value := if good s then .tuple #[den (top s).L (top s).k, .int .i64 0, .bool true] else .tuple #[.nilIface, .int .i64 (hp (top s).ts), .bool false]

set_option maxHeartbeats 2000000 in
set_option maxRecDepth 100000 in
theorem parse_any (s : ByteArray) (w : World) (hs : s.size ≤ 120) :
    Calls Tryz.prog 52 #[.string s] w fun e w' => e = .returned (parseR s) ∧ Below w.heap.size w w' := by
  have hl := toks_len s hs
  have hER := toksF_end s (s.size - 0) 0 false
  have hne := hER.1.ne
  have hlen1 : 1 ≤ (toks s 0 false).length := hne
  go_enter Tryz.func52, Tryz.ntmps52
  go_wp2_with fail
  refine (piecesOf_any s w hs).mono ?_
  rintro e w1 ⟨v, rfl, hown, hb1⟩
  obtain ⟨g, cap, rfl, hbg, hglt⟩ := hown.form (by omega)
  have hP := PSt.new hown hglt hER.1 hER.2
  have cs := ((par_all w1.heap.size 2000 2000 (Nat.le_refl _)).1) (toks s 0 false) [] _ (by omega) wf_nil hP
  have hb2 : Below w.heap.size w (w1.alloc (.cells #[.slice (some ⟨g, 0, none⟩) (toks s 0 false).length cap] 169)) := hb1.alloc hb1.size _
  have hsz1 := hb1.size
  clear hown hP
  have cs' : Calls Tryz.prog 77 #[.pointer (some ⟨w1.heap.size, 0, none⟩)] (w1.alloc (.cells #[.slice (some ⟨g, 0, none⟩) (toks s 0 false).length cap] 169)) (PPost w1.heap.size (w1.alloc (.cells #[.slice (some ⟨g, 0, none⟩) (toks s 0 false).length cap] 169)) (top s)) := cs
  clear cs hb1
  go_wp2_with fail
  refine cs'.mono ?_
  rintro e w2 ⟨v2, rfl, hI2, hP2, hb2', hv2⟩
  have HV : Hid ((top s).ok = true → v2 = den (top s).L (top s).k) := hv2
  have hb3 : Below w.heap.size w w2 := hb2.trans ((gb_to_below hb2' (Nat.le_refl _) (by simp)).mono hsz1)
  clear hv2 cs' hb2 hb2'
  have HG : Hid (good s = ((top s).ok && hd (top s).ts == -1)) := rfl
  have HR : Hid (parseR s = if good s then .tuple #[den (top s).L (top s).k, .int .i64 0, .bool true] else .tuple #[.nilIface, .int .i64 (hp (top s).ts), .bool false]) := rfl
  generalize top s = R at *
  have bad : good s = false → w2.heap.size = w2.heap.size → True := fun _ _ => trivial
  clear bad
  obtain ⟨g2, o2, cap2, pl2, ap2, c0, f0, hg2, hne2, hc2, hm2, d0, d1, d2, hpl, _⟩ := hP2.cells
  have HPL : Hid (pl2 = hp R.ts) := hpl
  clear hpl
  by_cases ho : R.ok = true
  · rw [ho]
    have HO : Hid (R.ok = true) := ho
    clear ho
    go_wp2_with fail
    refine (ahead_any _ R.ts _ hP2).mono ?_
    rintro e w3 ⟨rfl, hw3⟩
    have hw3 := hw3.symm
    subst hw3
    by_cases h1 : hd R.ts = -1
    · have b1 : (hd R.ts != -1) = false := by simp [h1]
      have H1 : Hid (good s = true) := by
        show good s = true
        rw [HG.out, HO.out, h1]; rfl
      clear h1
      go_wp2_with fail
      go_ret3
      rw [HR.out, if_pos H1.out, ← HV.out HO.out]
      exact ⟨rfl, hb3⟩
    · have b1 : (hd R.ts != -1) = true := by simp [h1]
      have H1 : Hid (¬ good s = true) := by
        show ¬ good s = true
        rw [HG.out, HO.out]; simpa using h1
      clear h1
      go_wp2_with fail
      go_quiet (fail)
      go_wp2_with fail
      go_ret3
      rw [HR.out, if_neg H1.out, ← HPL.out]
      exact ⟨rfl, below_drewN hb3 _⟩
  · have ho2 : R.ok = false := by simpa using ho
    rw [ho2]
    have H1 : Hid (¬ good s = true) := by
      show ¬ good s = true
      rw [HG.out, ho2]; simp
    clear ho ho2
    go_wp2_with fail
    go_quiet (fail)
    go_wp2_with fail
    go_ret3
    rw [HR.out, if_neg H1.out, ← HPL.out]
    exact ⟨rfl, below_drewN hb3 _⟩
end Go.Proofs.YtodabmkcihafhaaGreatDoor

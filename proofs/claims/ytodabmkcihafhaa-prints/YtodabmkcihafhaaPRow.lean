/- The program's parser: its rows. -/
import Derived.Test.YtodabmkcihafhaaPNum
import Derived.Test.YtodabmkcihafhaaDen
namespace Go.Proofs.Ytodabmkcihafhaa
open Go.RowKit
set_option linter.unusedVariables false

/-- What a call of the parser leaves, held against a reading. -/
def PPost (p : Nat) (w : World) (R : Res) (e : Ending) (w' : World) : Prop :=
  ∃ v, e = .returned (.tuple #[v, .bool R.ok]) ∧ IsI v ∧ PSt p R.ts w' ∧ w.grownBy w' (some p) ∧ (R.ok = true → v = den R.L R.k)
def CSum (p f : Nat) : Prop := ∀ (ts : List Tok) (L : List Nd) (w : World), 10 * ts.length + 6 ≤ f → WfL L → PSt p ts w → Calls Try.prog 20 #[.pointer (some ⟨p, 0, none⟩)] w (PPost p w (pp f 0 0 ts L))
def CPrd (p f : Nat) : Prop := ∀ (ts : List Tok) (L : List Nd) (w : World), 10 * ts.length + 4 ≤ f → WfL L → PSt p ts w → Calls Try.prog 31 #[.pointer (some ⟨p, 0, none⟩)] w (PPost p w (pp f 1 0 ts L))
def CFct (p f : Nat) : Prop := ∀ (ts : List Tok) (L : List Nd) (w : World), 10 * ts.length + 2 ≤ f → WfL L → PSt p ts w → Calls Try.prog 39 #[.pointer (some ⟨p, 0, none⟩)] w (PPost p w (pp f 2 0 ts L))
def CPrm (p f : Nat) : Prop := ∀ (ts : List Tok) (L : List Nd) (w : World), 10 * ts.length + 1 ≤ f → WfL L → PSt p ts w → Calls Try.prog 45 #[.pointer (some ⟨p, 0, none⟩)] w (PPost p w (pp f 3 0 ts L))

set_option maxHeartbeats 1000000 in
theorem join_sum (a b : Value) (c : Int) (q : Nat) (w : World) (ha : IsI a) (hb : IsI b) :
    Calls Try.prog 32 #[a, .agg #[.int .i32 c, .int .i64 q], b] w fun e w' => e = .returned (.iface 85 (.agg #[a, .int .i32 c, .int .i64 q, b])) ∧ Below w.heap.size w w' := by
  rcases ha with rfl | ⟨T, x, rfl⟩ <;> rcases hb with rfl | ⟨U, y, rfl⟩
  all_goals
    go_enter Try.func32, Try.ntmps32
    go_wp2_with fail
    go_ret
    exact ⟨rfl, (Below.refl _ w).alloc (Nat.le_refl _) _⟩
set_option maxHeartbeats 1000000 in
theorem join_prd (a b : Value) (c : Int) (q : Nat) (w : World) (ha : IsI a) (hb : IsI b) :
    Calls Try.prog 40 #[a, .agg #[.int .i32 c, .int .i64 q], b] w fun e w' => e = .returned (.iface 84 (.agg #[a, .int .i32 c, .int .i64 q, b])) ∧ Below w.heap.size w w' := by
  rcases ha with rfl | ⟨T, x, rfl⟩ <;> rcases hb with rfl | ⟨U, y, rfl⟩
  all_goals
    go_enter Try.func40, Try.ntmps40
    go_wp2_with fail
    go_ret
    exact ⟨rfl, (Below.refl _ w).alloc (Nat.le_refl _) _⟩

/-- A row between two rounds. -/
def RowQ (p : Nat) (w0 : World) (R : Res) (tag fmax g : Nat) (v : Value) (okb : Bool) (wr : World) : Prop :=
  ∃ (ts' : List Tok), IsI v ∧ PSt p ts' wr ∧ w0.grownBy wr (some p) ∧ ((okb = true ∧ ∃ L' k, v = den L' k ∧ k < L'.length ∧ WfL L' ∧ pp g tag k ts' L' = R ∧ 10 * ts'.length + 5 ≤ g ∧ g ≤ fmax) ∨ (okb = false ∧ R.ok = false ∧ R.ts = ts'))
theorem RowQ.start {p : Nat} {w w1 : World} {R R1 : Res} {tag f : Nat} {v : Value} (hR : R = if R1.ok = true then pp f tag R1.k R1.ts R1.L else R1) (hI : IsI v) (hP : PSt p R1.ts w1) (hB : w.grownBy w1 (some p)) (hv : R1.ok = true → v = den R1.L R1.k)
    (hlen : R1.ok = true → 10 * R1.ts.length + 5 ≤ f ∧ WfL R1.L ∧ R1.k < R1.L.length) : RowQ p w R tag f f v R1.ok w1 := by
  refine ⟨R1.ts, hI, hP, hB, ?_⟩
  by_cases h : R1.ok = true
  · rw [if_pos h] at hR
    exact Or.inl ⟨h, R1.L, R1.k, hv h, (hlen h).2.2, (hlen h).2.1, hR.symm, (hlen h).1, Nat.le_refl _⟩
  · rw [if_neg h] at hR
    subst hR
    exact Or.inr ⟨by simpa using h, by simpa using h, rfl⟩

/-- A round behind a round. -/
theorem RowQ.next {p : Nat} {w w5 : World} {R sub : Res} {tag fmax g k j : Nat} {c : Int} {v5 : Value} {L2 : List Nd} {v : Value}
    (hQ : (if sub.ok = true then pp g tag sub.L.length sub.ts (sub.L ++ [opNd c k sub.k j]) else sub) = R) (hP : PSt p sub.ts w5) (hB : w.grownBy w5 (some p)) (hv5 : sub.ok = true → v5 = den sub.L sub.k) (hv : v = den L2 k) (hk : k < L2.length) (hw2 : WfL L2)
    (hpre : ∃ M, sub.L = L2 ++ M) (hc : isBin c = true) (hc0 : 0 ≤ c) (hc1 : c < 55296) (hlen : sub.ok = true → 10 * sub.ts.length + 5 ≤ g ∧ WfL sub.L ∧ sub.k < sub.L.length) (hg : g ≤ fmax) (T : TypeId) (x : Value) (V : Value)
    (hV : V = .iface T x) (hVn : sub.ok = true → V = nodeD (opNd c k sub.k j) v v5) : RowQ p w R tag fmax g V sub.ok w5 := by
  refine ⟨sub.ts, Or.inr ⟨T, x, hV⟩, hP, hB, ?_⟩
  by_cases h : sub.ok = true
  · rw [if_pos h] at hQ
    obtain ⟨l1, l2, l3⟩ := hlen h
    obtain ⟨M, hM⟩ := hpre
    have hk2 : k < sub.L.length := by rw [hM]; simp; omega
    have wn : WfN sub.L.length (opNd c k sub.k j) := wf_bin hc0 hc1 hk2 l3
    refine Or.inl ⟨h, sub.L ++ [opNd c k sub.k j], sub.L.length, ?_, by simp, l2.snoc wn, hQ, l1, hg⟩
    rw [den_last sub.L _ l2 wn, hVn h, hv, hv5 h]
    congr 1
    show den L2 k = den sub.L k
    rw [hM]
    exact (den_append L2 M k hw2 hk).symm
  · rw [if_neg h] at hQ
    subst hQ
    exact Or.inr ⟨by simpa using h, by simpa using h, rfl⟩
theorem row0_iff (h : Int) : inRow 0 h = true ↔ h = 43 ∨ h = 8722 := by simp [inRow]
theorem row1_iff (h : Int) : inRow 1 h = true ↔ h = 215 ∨ h = 247 := by simp [inRow]
theorem nodeD_sum {c : Int} (h : c = 43 ∨ c = 8722) (k j l : Nat) (a b : Value) : nodeD (opNd c k j l) a b = .iface 85 (.agg #[a, .int .i32 c, .int .i64 l, b]) := by
  unfold nodeD opNd
  simp only
  rw [if_pos h]
theorem nodeD_prd {c : Int} (h : c = 215 ∨ c = 247) (k j l : Nat) (a b : Value) : nodeD (opNd c k j l) a b = .iface 84 (.agg #[a, .int .i32 c, .int .i64 l, b]) := by
  unfold nodeD opNd
  simp only
  rw [if_neg (by omega), if_pos h]

set_option maxHeartbeats 2000000 in
set_option maxRecDepth 100000 in
theorem sumRow_step (p f : Nat) (ih : ∀ g, g ≤ f → CPrd p g) (ts : List Tok) (L : List Nd) (w : World) (hf : 10 * ts.length + 6 ≤ f + 1) (hw : WfL L) (h : PSt p ts w) :
    Calls Try.prog 30 #[.pointer (some ⟨p, 0, none⟩), .func (Fn.func 31) #[.pointer (some ⟨p, 0, none⟩)] #[], .string ⟨#[43, 226, 136, 146]⟩, .func (Fn.func 32) #[] #[]] w (PPost p w (pp (f + 1) 0 0 ts L)) := by
  have R1 : Hid (pp (f + 1) 0 0 ts L = if (pp f 1 0 ts L).ok = true then pp f 4 (pp f 1 0 ts L).k (pp f 1 0 ts L).ts (pp f 1 0 ts L).L else pp f 1 0 ts L) := by show _ = _; simp only [pp]
  generalize pp (f + 1) 0 0 ts L = R at *
  have IH : Hid (∀ g, g ≤ f → CPrd p g) := ih
  clear ih
  go_enter Try.func30, Try.ntmps30
  go_wp2_with fail
  refine (IH.out f (Nat.le_refl _) ts L _ (by omega) hw h).mono ?_
  rintro e w1 ⟨v1, rfl, hI1, hP1, hb1, hv1⟩
  have hQ : RowQ p w R 4 f f v1 (pp f 1 0 ts L).ok w1 := by
    have pi := pp_inv f 1 0 ts L
    refine RowQ.start R1.out hI1 hP1 hb1 hv1 (fun ho => ?_)
    have a1 := pi.lt ho (by decide)
    exact ⟨by omega, (pp_size f 1 0 ts L hw (by omega) ho).wf, pi.kk ho (Or.inl (by decide))⟩
  clear hI1 hP1 hb1 hv1 R1
  generalize (pp f 1 0 ts L).ok = ok1 at *
  go_wp2_with fail
  go_loopg [10, 11] f (fun g s10 s11 wr => ∃ (v : Value) (okb : Bool), s10 = v ∧ s11 = .bool okb ∧ RowQ p w R 4 f g v okb wr)
  case atStart => exact ⟨v1, ok1, rfl, rfl, hQ⟩
  case round =>
    clear hQ h
    obtain ⟨v, okb, rfl, rfl, ts2, hI, hP, hb, hcase⟩ := hrel
    rcases hcase with ⟨rfl, L2, k, hv, hk, hw2, hpp, hg, hgf⟩ | ⟨rfl, ho, hts⟩
    · have HV : Hid (u10 = den L2 k) := hv
      have HP : Hid (pp gk 4 k ts2 L2 = R) := hpp
      clear hv hpp
      have hr := hP.endOk.2.hd
      go_wp2_with fail
      refine (ahead_any p ts2 _ hP).mono ?_
      rintro e w2 ⟨rfl, hw2e⟩
      subst hw2e
      go_wp2_with fail
      refine (contains_sum (hd ts2) _ hr.1 hr.2).mono ?_
      rintro e w3 ⟨rfl, hb3⟩
      have hP3 := hP.above hb3
      have hb03 : w.grownBy w3 (some p) := gb_below hb hb3
      clear hP hb hb3
      obtain ⟨g, rfl⟩ : ∃ g, gk = g + 1 := ⟨gk - 1, by omega⟩
      by_cases hm : inRow 0 (hd ts2) = true
      · have hm2 := (row0_iff _).1 hm
        have hne : hd ts2 ≠ -1 := by omega
        have hlt2 := (hP3.endOk.1.tail hne).2
        have HQ : Hid ((if (pp g 1 0 ts2.tail L2).ok = true then pp g 4 (pp g 1 0 ts2.tail L2).L.length (pp g 1 0 ts2.tail L2).ts ((pp g 1 0 ts2.tail L2).L ++ [opNd (hd ts2) k (pp g 1 0 ts2.tail L2).k (hp ts2)]) else pp g 1 0 ts2.tail L2) = R) := by
          have := HP.out
          simp only [pp] at this
          rw [if_pos hm] at this
          exact this
        have htl : ts2.tail.length + 1 = ts2.length := by simp; omega
        have HM : Hid (hd ts2 = 43 ∨ hd ts2 = 8722) := hm2
        clear HP hm2
        go_wp2_with fail
        refine (take_any p ts2 _ hP3 hne).mono ?_
        rintro e w4 ⟨rfl, hP4, v4, hv4⟩
        have hb4 : w.grownBy w4 (some p) := gb_trans hb03 v4
        clear hv4 hP3 hb03
        have hlt4 := hP4.lt
        obtain ⟨W4, hW4⟩ : ∃ W4, W4 = w4.alloc (.cells #[.int .i32 (hd ts2), .int .i64 (hp ts2)] 64) := ⟨_, rfl⟩
        have hP4' : PSt p ts2.tail W4 := hP4.above (by rw [hW4]; exact (Below.refl _ w4).alloc (Nat.le_refl _) _)
        have hb4' : w.grownBy W4 (some p) := by rw [hW4]; exact gb_alloc hb4 _
        have hS4 : W4.heap[w4.heap.size]? = some (.cells #[.int .i32 (hd ts2), .int .i64 (hp ts2)] 64 (0, 0)) := by rw [hW4]; exact heap_alloc_new w4 _
        have HW4 : Hid (W4 = w4.alloc (.cells #[.int .i32 (hd ts2), .int .i64 (hp ts2)] 64)) := hW4
        clear hW4 hP4 hb4
        go_wp2_with fail
        rw [← HW4.out]
        refine (IH.out g (by omega) ts2.tail L2 _ (by omega) hw2 hP4').mono ?_
        rintro e w5 ⟨v5, rfl, hI5, hP5, hb5, hv5⟩
        have H5 : Hid ((pp g 1 0 ts2.tail L2).ok = true → v5 = den (pp g 1 0 ts2.tail L2).L (pp g 1 0 ts2.tail L2).k) := hv5
        clear hv5
        have hS5 : w5.heap[w4.heap.size]? = some (.cells #[.int .i32 (hd ts2), .int .i64 (hp ts2)] 64 (0, 0)) := (hb5.block _ (Array.getElem?_eq_some_iff.1 hS4).1 (by simp; omega)).trans hS4
        have s0 : w5.cell? ⟨w4.heap.size, 0, none⟩ = some (.int .i32 (hd ts2)) := by simp [World.cell?, hS5]
        have s1 : w5.cell? ⟨w4.heap.size, 1, none⟩ = some (.int .i64 (hp ts2)) := by simp [World.cell?, hS5]
        clear hS4 hS5
        go_wp2_with fail
        refine (join_sum _ v5 (hd ts2) (hp ts2) _ hI hI5).mono ?_
        rintro e w6 ⟨rfl, hb6⟩
        have hP6 := hP5.above hb6
        have hb56 := gb_below (gb_trans hb4' hb5) hb6
        clear hP5 hb6
        go_wp2_with fail
        go_roundg g
        case measure => omega
        case rel =>
          refine ⟨_, _, rfl, rfl, ?_⟩
          have pi := pp_inv g 1 0 ts2.tail L2
          have hm2 := HM.out
          exact RowQ.next HQ.out hP6 hb56 H5.out HV.out hk hw2 pi.pre (by unfold isBin; rcases hm2 with e | e <;> simp [e]) (by omega) (by omega) (fun ho => ⟨by have := pi.lt ho (by decide); omega, (pp_size g 1 0 ts2.tail L2 hw2 (by omega) ho).wf, pi.kk ho (Or.inl (by decide))⟩) (by omega) _ _ _ rfl (fun _ => (nodeD_sum hm2 _ _ _ _ _).symm)
      · have hm2 : inRow 0 (hd ts2) = false := by simpa using hm
        have HQ : Hid (R = ⟨true, k, L2, ts2⟩) := by
          have := HP.out
          simp only [pp] at this
          rw [if_neg hm] at this
          exact this.symm
        clear HP
        go_wp2_with fail
        go_ret2
        rw [HQ.out]
        exact ⟨_, rfl, hI, hP3, hb03, fun _ => HV.out⟩
    · have HO : Hid (R.ok = false ∧ R.ts = ts2) := ⟨ho, hts⟩
      clear ho hts
      go_wp2_with fail
      go_ret2
      obtain ⟨o1, o2⟩ := HO.out
      refine ⟨_, by rw [o1]; rfl, hI, by rw [o2]; exact hP, hb, fun h => by rw [o1] at h; cases h⟩
end Go.Proofs.Ytodabmkcihafhaa

/- The program's parser: products, factors, primaries; all of it. -/
import Derived.Test.YtodabmkcihafhaaPRow
namespace Go.Proofs.Ytodabmkcihafhaa
open Go.RowKit
set_option linter.unusedVariables false

set_option maxHeartbeats 2000000 in
set_option maxRecDepth 100000 in
theorem prdRow_step (p f : Nat) (ih : ∀ g, g ≤ f → CFct p g) (ts : List Tok) (L : List Nd) (w : World) (hf : 10 * ts.length + 4 ≤ f + 1) (hw : WfL L) (h : PSt p ts w) :
    Calls Try.prog 30 #[.pointer (some ⟨p, 0, none⟩), .func (Fn.func 39) #[.pointer (some ⟨p, 0, none⟩)] #[], .string ⟨#[195, 151, 195, 183]⟩, .func (Fn.func 40) #[] #[]] w (PPost p w (pp (f + 1) 1 0 ts L)) := by
  have R1 : Hid (pp (f + 1) 1 0 ts L = if (pp f 2 0 ts L).ok = true then pp f 5 (pp f 2 0 ts L).k (pp f 2 0 ts L).ts (pp f 2 0 ts L).L else pp f 2 0 ts L) := by show _ = _; simp only [pp]
  generalize pp (f + 1) 1 0 ts L = R at *
  have IH : Hid (∀ g, g ≤ f → CFct p g) := ih
  clear ih
  go_enter Try.func30, Try.ntmps30
  go_wp2_with fail
  refine (IH.out f (Nat.le_refl _) ts L _ (by omega) hw h).mono ?_
  rintro e w1 ⟨v1, rfl, hI1, hP1, hb1, hv1⟩
  have hQ : RowQ p w R 5 f f v1 (pp f 2 0 ts L).ok w1 := by
    have pi := pp_inv f 2 0 ts L
    refine RowQ.start R1.out hI1 hP1 hb1 hv1 (fun ho => ?_)
    have a1 := pi.lt ho (by decide)
    exact ⟨by omega, (pp_size f 2 0 ts L hw (by omega) ho).wf, pi.kk ho (Or.inl (by decide))⟩
  clear hI1 hP1 hb1 hv1 R1
  generalize (pp f 2 0 ts L).ok = ok1 at *
  go_wp2_with fail
  go_loopg [10, 11] f (fun g s10 s11 wr => ∃ (v : Value) (okb : Bool), s10 = v ∧ s11 = .bool okb ∧ RowQ p w R 5 f g v okb wr)
  case atStart => exact ⟨v1, ok1, rfl, rfl, hQ⟩
  case round =>
    clear hQ h
    obtain ⟨v, okb, rfl, rfl, ts2, hI, hP, hb, hcase⟩ := hrel
    rcases hcase with ⟨rfl, L2, k, hv, hk, hw2, hpp, hg, hgf⟩ | ⟨rfl, ho, hts⟩
    · have HV : Hid (u10 = den L2 k) := hv
      have HP : Hid (pp gk 5 k ts2 L2 = R) := hpp
      clear hv hpp
      have hr := hP.endOk.2.hd
      go_wp2_with fail
      refine (ahead_any p ts2 _ hP).mono ?_
      rintro e w2 ⟨rfl, hw2e⟩
      subst hw2e
      go_wp2_with fail
      refine (contains_prod (hd ts2) _ hr.1 hr.2).mono ?_
      rintro e w3 ⟨rfl, hb3⟩
      have hP3 := hP.above hb3
      have hb03 : w.grownBy w3 (some p) := gb_below hb hb3
      clear hP hb hb3
      obtain ⟨g, rfl⟩ : ∃ g, gk = g + 1 := ⟨gk - 1, by omega⟩
      by_cases hm : inRow 1 (hd ts2) = true
      · have hm2 := (row1_iff _).1 hm
        have hne : hd ts2 ≠ -1 := by omega
        have hlt2 := (hP3.endOk.1.tail hne).2
        have HQ : Hid ((if (pp g 2 0 ts2.tail L2).ok = true then pp g 5 (pp g 2 0 ts2.tail L2).L.length (pp g 2 0 ts2.tail L2).ts ((pp g 2 0 ts2.tail L2).L ++ [opNd (hd ts2) k (pp g 2 0 ts2.tail L2).k (hp ts2)]) else pp g 2 0 ts2.tail L2) = R) := by
          have := HP.out
          simp only [pp] at this
          rw [if_pos hm] at this
          exact this
        have htl : ts2.tail.length + 1 = ts2.length := by simp; omega
        have HM : Hid (hd ts2 = 215 ∨ hd ts2 = 247) := hm2
        clear HP hm2
        go_wp2_with fail
        refine (take_any p ts2 _ hP3 hne).mono ?_
        rintro e w4 ⟨rfl, hP4, v4, hv4⟩
        have hb4 : w.grownBy w4 (some p) := gb_trans hb03 v4
        clear hv4 hP3 hb03
        have hlt4 := hP4.lt
        obtain ⟨W4, hW4⟩ : ∃ W4, W4 = w4.alloc (.cells #[.int .i32 (hd ts2), .int .i64 (hp ts2)] 64) := ⟨_, rfl⟩
        have hP4' : PSt p ts2.tail W4 := hP4.above (by rw [hW4]; exact (Below.refl _ w4).alloc (Nat.le_refl _) _)
        have hb4' : w.grownBy W4 (some p) := by rw [hW4]; exact gb_alloc hb4 _
        have hS4 : W4.heap[w4.heap.size]? = some (.cells #[.int .i32 (hd ts2), .int .i64 (hp ts2)] 64 (0, 0)) := by rw [hW4]; exact heap_alloc_new w4 _
        have HW4 : Hid (W4 = w4.alloc (.cells #[.int .i32 (hd ts2), .int .i64 (hp ts2)] 64)) := hW4
        clear hW4 hP4 hb4
        go_wp2_with fail
        rw [← HW4.out]
        refine (IH.out g (by omega) ts2.tail L2 _ (by omega) hw2 hP4').mono ?_
        rintro e w5 ⟨v5, rfl, hI5, hP5, hb5, hv5⟩
        have H5 : Hid ((pp g 2 0 ts2.tail L2).ok = true → v5 = den (pp g 2 0 ts2.tail L2).L (pp g 2 0 ts2.tail L2).k) := hv5
        clear hv5
        have hS5 : w5.heap[w4.heap.size]? = some (.cells #[.int .i32 (hd ts2), .int .i64 (hp ts2)] 64 (0, 0)) := (hb5.block _ (Array.getElem?_eq_some_iff.1 hS4).1 (by simp; omega)).trans hS4
        have s0 : w5.cell? ⟨w4.heap.size, 0, none⟩ = some (.int .i32 (hd ts2)) := by simp [World.cell?, hS5]
        have s1 : w5.cell? ⟨w4.heap.size, 1, none⟩ = some (.int .i64 (hp ts2)) := by simp [World.cell?, hS5]
        clear hS4 hS5
        go_wp2_with fail
        refine (join_prd _ v5 (hd ts2) (hp ts2) _ hI hI5).mono ?_
        rintro e w6 ⟨rfl, hb6⟩
        have hP6 := hP5.above hb6
        have hb56 := gb_below (gb_trans hb4' hb5) hb6
        clear hP5 hb6
        go_wp2_with fail
        go_roundg g
        case measure => omega
        case rel =>
          refine ⟨_, _, rfl, rfl, ?_⟩
          have pi := pp_inv g 2 0 ts2.tail L2
          have hm2 := HM.out
          exact RowQ.next HQ.out hP6 hb56 H5.out HV.out hk hw2 pi.pre (by unfold isBin; rcases hm2 with e | e <;> simp [e]) (by omega) (by omega) (fun ho => ⟨by have := pi.lt ho (by decide); omega, (pp_size g 2 0 ts2.tail L2 hw2 (by omega) ho).wf, pi.kk ho (Or.inl (by decide))⟩) (by omega) _ _ _ rfl (fun _ => (nodeD_prd hm2 _ _ _ _ _).symm)
      · have hm2 : inRow 1 (hd ts2) = false := by simpa using hm
        have HQ : Hid (R = ⟨true, k, L2, ts2⟩) := by
          have := HP.out
          simp only [pp] at this
          rw [if_neg hm] at this
          exact this.symm
        clear HP
        go_wp2_with fail
        go_ret2
        rw [HQ.out]
        exact ⟨_, rfl, hI, hP3, hb03, fun _ => HV.out⟩
    · have HO : Hid (R.ok = false ∧ R.ts = ts2) := ⟨ho, hts⟩
      clear ho hts
      go_wp2_with fail
      go_ret2
      obtain ⟨o1, o2⟩ := HO.out
      refine ⟨_, by rw [o1]; rfl, hI, by rw [o2]; exact hP, hb, fun h => by rw [o1] at h; cases h⟩

theorem sum_step (p f : Nat) (ih : ∀ g, g ≤ f → CPrd p g) : CSum p (f + 1) := by
  intro ts L w hf hw h
  have c := sumRow_step p f ih ts L w hf hw h
  generalize pp (f + 1) 0 0 ts L = R at *
  go_enter Try.func20, Try.ntmps20
  go_wp2_with fail
  refine c.mono ?_
  rintro e w1 ⟨v, rfl, h1, h2, h3, h4⟩
  have H4 : Hid (R.ok = true → v = den R.L R.k) := h4
  clear h4
  go_wp2_with fail
  go_ret2
  exact ⟨v, rfl, h1, h2, h3, H4.out⟩
theorem prd_step (p f : Nat) (ih : ∀ g, g ≤ f → CFct p g) : CPrd p (f + 1) := by
  intro ts L w hf hw h
  have c := prdRow_step p f ih ts L w hf hw h
  generalize pp (f + 1) 1 0 ts L = R at *
  go_enter Try.func31, Try.ntmps31
  go_wp2_with fail
  refine c.mono ?_
  rintro e w1 ⟨v, rfl, h1, h2, h3, h4⟩
  have H4 : Hid (R.ok = true → v = den R.L R.k) := h4
  clear h4
  go_wp2_with fail
  go_ret2
  exact ⟨v, rfl, h1, h2, h3, H4.out⟩

theorem mark_iff (h : Int) : isMk h = true ↔ h = 178 ∨ h = 8242 := by simp [isMk]
theorem nodeD_neg (k j l : Nat) (a b : Value) : nodeD (opNd 110 k j l) a b = .iface 82 (.agg #[a]) := by
  unfold nodeD opNd
  simp
theorem nodeD_mark {c : Int} (h : c = 178 ∨ c = 8242) (k j l : Nat) (a b : Value) : nodeD (opNd c k j l) a b = .iface 78 (.agg #[a, .int .i32 c, .int .i64 l]) := by
  unfold nodeD opNd
  simp only
  rw [if_neg (by omega), if_neg (by omega), if_neg (by omega), if_pos h]
theorem nodeD_num (ts : List Tok) (a b : Value) : nodeD (numNd ts) a b = .iface 68 (.agg #[.string (encAll (numT ts).1)]) := by
  unfold nodeD numNd
  simp
theorem nodeD_unit (k j l : Nat) (a b : Value) : nodeD (opNd 105 k j l) a b = .iface 74 (.agg #[]) := by
  unfold nodeD opNd
  simp
theorem nodeD_name {c : Int} (h : 945 ≤ c ∧ c ≤ 969) (k j l : Nat) (a b : Value) : nodeD (opNd c k j l) a b = .iface 76 (.agg #[.int .i32 c, .int .i64 l]) := by
  unfold nodeD opNd
  simp only
  rw [if_neg (by omega), if_neg (by omega), if_neg (by omega), if_neg (by omega), if_neg (by omega), if_neg (by omega)]

set_option maxHeartbeats 2000000 in
set_option maxRecDepth 100000 in
theorem fct_step (p f : Nat) (ih : ∀ g, g ≤ f → CFct p g) (ih3 : CPrm p f) : CFct p (f + 1) := by
  intro ts L w hf hw h
  have R1 : Hid (pp (f + 1) 2 0 ts L = if hd ts = 8722 then
        (if (pp f 2 0 ts.tail L).ok then ⟨true, (pp f 2 0 ts.tail L).L.length, (pp f 2 0 ts.tail L).L ++ [opNd 110 (pp f 2 0 ts.tail L).k 0 (hp ts)], (pp f 2 0 ts.tail L).ts⟩
         else pp f 2 0 ts.tail L)
      else if (pp f 3 0 ts L).ok then pp f 6 (pp f 3 0 ts L).k (pp f 3 0 ts L).ts (pp f 3 0 ts L).L else pp f 3 0 ts L) := by show _ = _; simp only [pp]
  generalize pp (f + 1) 2 0 ts L = R at *
  have IH : Hid (∀ g, g ≤ f → CFct p g) := ih
  clear ih
  go_enter Try.func39, Try.ntmps39
  go_wp2_with fail
  refine (ahead_any p ts _ h).mono ?_
  rintro e w1 ⟨rfl, hw1⟩
  have hw1 := hw1.symm
  subst hw1
  by_cases hm : hd ts = 8722
  · have b87 : (hd ts == 8722) = true := by simp [hm]
    have hne : hd ts ≠ -1 := by omega
    have hlt2 := (h.endOk.1.tail hne).2
    have htl : ts.tail.length + 1 = ts.length := by simp; omega
    have R2 : Hid (R = if (pp f 2 0 ts.tail L).ok then ⟨true, (pp f 2 0 ts.tail L).L.length, (pp f 2 0 ts.tail L).L ++ [opNd 110 (pp f 2 0 ts.tail L).k 0 (hp ts)], (pp f 2 0 ts.tail L).ts⟩ else pp f 2 0 ts.tail L) := by
      have := R1.out
      rw [if_pos hm] at this
      exact this
    clear R1 hm
    go_wp2_with fail
    refine (take_any p ts _ h hne).mono ?_
    rintro e w4 ⟨rfl, hP4, v4, hv4⟩
    have hb4 : w.grownBy w4 (some p) := v4
    clear hv4 h
    go_wp2_with fail
    refine (IH.out f (Nat.le_refl _) ts.tail L _ (by omega) hw hP4).mono ?_
    rintro e w5 ⟨v5, rfl, hI5, hP5, hb5, hv5⟩
    have H5 : Hid ((pp f 2 0 ts.tail L).ok = true → v5 = den (pp f 2 0 ts.tail L).L (pp f 2 0 ts.tail L).k) := hv5
    clear hv5
    have HE : Hid (∃ V, V = Value.iface 82 (.agg #[v5])) := ⟨_, rfl⟩
    have fin : PPost p w R (.returned (.tuple #[.iface 82 (.agg #[v5]), .bool (pp f 2 0 ts.tail L).ok])) w5 := by
      have pi := pp_inv f 2 0 ts.tail L
      by_cases ho : (pp f 2 0 ts.tail L).ok = true
      · have hR := R2.out
        rw [if_pos ho] at hR
        subst hR
        have wf1 := (pp_size f 2 0 ts.tail L hw (by omega) ho).wf
        have kk := pi.kk ho (Or.inl (by decide))
        have wn : WfN (pp f 2 0 ts.tail L).L.length (opNd 110 (pp f 2 0 ts.tail L).k 0 (hp ts)) := wf_un (by decide) (by decide) rfl kk
        refine ⟨_, by rw [ho], Or.inr ⟨_, _, rfl⟩, hP5, gb_trans hb4 hb5, fun _ => ?_⟩
        show _ = den ((pp f 2 0 ts.tail L).L ++ [opNd 110 (pp f 2 0 ts.tail L).k 0 (hp ts)]) (pp f 2 0 ts.tail L).L.length
        rw [den_last _ _ wf1 wn, nodeD_neg, H5.out ho]
        rfl
      · have hR := R2.out
        rw [if_neg ho] at hR
        subst hR
        exact ⟨_, rfl, Or.inr ⟨_, _, rfl⟩, hP5, gb_trans hb4 hb5, fun h => absurd h ho⟩
    have FIN : Hid (PPost p w R (.returned (.tuple #[.iface 82 (.agg #[v5]), .bool (pp f 2 0 ts.tail L).ok])) w5) := fin
    clear fin HE H5 hP5
    generalize (pp f 2 0 ts.tail L).ok = ok5 at *
    rcases hI5 with rfl | ⟨T, x, rfl⟩
    all_goals
      go_wp2_with fail
      go_ret2
      exact FIN.out
  · have b87 : (hd ts == 8722) = false := by simp [hm]
    have R2 : Hid (R = if (pp f 3 0 ts L).ok = true then pp f 6 (pp f 3 0 ts L).k (pp f 3 0 ts L).ts (pp f 3 0 ts L).L else pp f 3 0 ts L) := by
      have := R1.out
      rw [if_neg hm] at this
      exact this
    clear R1 hm
    go_wp2_with fail
    refine (ih3 ts L _ (by omega) hw h).mono ?_
    rintro e w1 ⟨v1, rfl, hI1, hP1, hb1, hv1⟩
    have hQ : RowQ p w R 6 f f v1 (pp f 3 0 ts L).ok w1 := by
      have pi := pp_inv f 3 0 ts L
      refine RowQ.start R2.out hI1 hP1 hb1 hv1 (fun ho => ?_)
      have a1 := pi.lt ho (by decide)
      exact ⟨by omega, (pp_size f 3 0 ts L hw (by omega) ho).wf, pi.kk ho (Or.inl (by decide))⟩
    clear hI1 hP1 hb1 hv1 R2 ih3
    generalize (pp f 3 0 ts L).ok = ok1 at *
    go_wp2_with fail
    go_loopg [6] f (fun g s6 wr => ∃ (v : Value), s6 = v ∧ RowQ p w R 6 f g v ok1 wr)
    case atStart => exact ⟨v1, rfl, hQ⟩
    case round =>
      clear hQ h
      obtain ⟨v, rfl, ts2, hI, hP, hb, hcase⟩ := hrel
      rcases hcase with ⟨rfl, L2, k, hv, hk, hw2, hpp, hg, hgf⟩ | ⟨rfl, ho, hts⟩
      · have HV : Hid (u6 = den L2 k) := hv
        have HP : Hid (pp gk 6 k ts2 L2 = R) := hpp
        clear hv hpp
        have hr := hP.endOk.2.hd
        go_wp2_with fail
        refine (ahead_any p ts2 _ hP).mono ?_
        rintro e w2 ⟨rfl, hw2e⟩
        subst hw2e
        go_wp2_with fail
        refine (isMark_any (hd ts2) _ hr.1 hr.2).mono ?_
        rintro e w3 ⟨rfl, hb3⟩
        have hP3 := hP.above hb3
        have hb03 : w.grownBy w3 (some p) := gb_below hb hb3
        clear hP hb hb3
        obtain ⟨g, rfl⟩ : ∃ g, gk = g + 1 := ⟨gk - 1, by omega⟩
        by_cases hm : isMk (hd ts2) = true
        · have hm2 := (mark_iff _).1 hm
          have hne : hd ts2 ≠ -1 := by omega
          have hlt2 := (hP3.endOk.1.tail hne).2
          have HQ : Hid (pp g 6 L2.length ts2.tail (L2 ++ [opNd (hd ts2) k 0 (hp ts2)]) = R) := by
            have := HP.out
            simp only [pp] at this
            rw [if_pos hm] at this
            exact this
          have htl : ts2.tail.length + 1 = ts2.length := by simp; omega
          have HM : Hid (hd ts2 = 178 ∨ hd ts2 = 8242) := hm2
          have wn : WfN L2.length (opNd (hd ts2) k 0 (hp ts2)) := wf_un (by omega) (by omega) (by unfold isBin; rcases hm2 with e | e <;> simp [e]) hk
          have FV : Hid (Value.iface 78 (.agg #[u6, .int .i32 (hd ts2), .int .i64 (hp ts2)]) = den (L2 ++ [opNd (hd ts2) k 0 (hp ts2)]) L2.length) := by
            show _ = _
            rw [den_last _ _ hw2 wn, nodeD_mark hm2, HV.out]
            rfl
          have WN : Hid (WfN L2.length (opNd (hd ts2) k 0 (hp ts2))) := wn
          clear HP hm2 wn HV
          go_wp2_with fail
          refine (take_any p ts2 _ hP3 hne).mono ?_
          rintro e w4 ⟨rfl, hP4, v4, hv4⟩
          have hb4 : w.grownBy w4 (some p) := gb_trans hb03 v4
          clear hv4 hP3 hb03
          rcases hI with rfl | ⟨T, x, rfl⟩
          all_goals
            go_wp2_with fail
            go_roundg g
            case measure => omega
            case rel => exact ⟨_, rfl, ts2.tail, Or.inr ⟨_, _, rfl⟩, hP4, hb4, Or.inl ⟨rfl, L2 ++ [opNd (hd ts2) k 0 (hp ts2)], L2.length, FV.out, by simp, hw2.snoc WN.out, HQ.out, by omega, by omega⟩⟩
        · have hm2 : isMk (hd ts2) = false := by simpa using hm
          have HQ : Hid (R = ⟨true, k, L2, ts2⟩) := by
            have := HP.out
            simp only [pp] at this
            rw [if_neg hm] at this
            exact this.symm
          clear HP
          go_wp2_with fail
          go_ret2
          rw [HQ.out]
          exact ⟨_, rfl, hI, hP3, hb03, fun _ => HV.out⟩
      · have HO : Hid (R.ok = false ∧ R.ts = ts2) := ⟨ho, hts⟩
        clear ho hts
        go_wp2_with fail
        go_ret2
        obtain ⟨o1, o2⟩ := HO.out
        refine ⟨_, by rw [o1]; rfl, hI, by rw [o2]; exact hP, hb, fun h => by rw [o1] at h; cases h⟩
end Go.Proofs.Ytodabmkcihafhaa

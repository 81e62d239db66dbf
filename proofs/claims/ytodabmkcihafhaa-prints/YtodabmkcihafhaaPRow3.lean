/- The program's parser: primaries, and all by one induction; Parse. -/
import Derived.Test.YtodabmkcihafhaaPRow2
import Derived.Stop.FmtRuneSmall
namespace Go.Proofs.Ytodabmkcihafhaa
open Go.RowKit
set_option linter.unusedVariables false

/-- What stands in brackets, as the reading has it. -/
def brRes (R : Res) : Res := if R.ok then (if hd R.ts = 41 then ⟨true, R.k, R.L, R.ts.tail⟩ else ⟨false, 0, R.L, R.ts⟩) else R

set_option maxHeartbeats 2000000 in
set_option maxRecDepth 100000 in
theorem bracketed_any (p f : Nat) (ih : CSum p f) (ts : List Tok) (L : List Nd) (w : World) (hf : 10 * ts.length + 6 ≤ f) (hw : WfL L) (h : PSt p ts w) :
    Calls Try.prog 55 #[.pointer (some ⟨p, 0, none⟩)] w (PPost p w (brRes (pp f 0 0 ts L))) := by
  have c := ih ts L w hf hw h
  generalize pp f 0 0 ts L = R at *
  go_enter Try.func55, Try.ntmps55
  go_wp2_with fail
  refine c.mono ?_
  rintro e w1 ⟨v, rfl, hI, hP, hb, hv⟩
  have HV : Hid (R.ok = true → v = den R.L R.k) := hv
  clear hv c h
  by_cases ho : R.ok = true
  · rw [ho]
    have HO : Hid (R.ok = true) := ho
    clear ho
    go_wp2_with fail
    refine (ahead_any p R.ts _ hP).mono ?_
    rintro e w2 ⟨rfl, hw2⟩
    have hw2 := hw2.symm
    subst hw2
    by_cases h41 : hd R.ts = 41
    · have b41 : (hd R.ts != 41) = false := by simp [h41]
      have H41 : Hid (hd R.ts = 41) := h41
      have hne : hd R.ts ≠ -1 := by omega
      clear h41
      go_wp2_with fail
      refine (take_any p R.ts _ hP hne).mono ?_
      rintro e w4 ⟨rfl, hP4, v4, hv4⟩
      have hb4 : w.grownBy w4 (some p) := gb_trans hb v4
      clear hv4
      go_wp2_with fail
      go_ret2
      rw [show brRes R = ⟨true, R.k, R.L, R.ts.tail⟩ by unfold brRes; rw [if_pos HO.out, if_pos H41.out]]
      exact ⟨v, rfl, hI, hP4, hb4, fun _ => HV.out HO.out⟩
    · have b41 : (hd R.ts != 41) = true := by simp [h41]
      have H41 : Hid (¬ hd R.ts = 41) := h41
      clear h41
      go_wp2_with fail
      go_ret2
      rw [show brRes R = ⟨false, 0, R.L, R.ts⟩ by unfold brRes; rw [if_pos HO.out, if_neg H41.out]]
      exact ⟨.nilIface, rfl, Or.inl rfl, hP, hb, fun h => by cases h⟩
  · have ho2 : R.ok = false := by simpa using ho
    rw [ho2]
    have HO : Hid (R.ok = false) := ho2
    clear ho ho2
    go_wp2_with fail
    go_ret2
    have o := HO.out
    rw [show brRes R = R by unfold brRes; rw [if_neg (by rw [o]; decide)]]
    exact ⟨.nilIface, by rw [o]; rfl, Or.inl rfl, hP, hb, fun h => by rw [o] at h; cases h⟩

set_option maxHeartbeats 2000000 in
set_option maxRecDepth 100000 in
theorem prm_step (p f : Nat) (ih : CSum p f) : CPrm p (f + 1) := by
  intro ts L w hf hw h
  have R1 : Hid (pp (f + 1) 3 0 ts L = (if isDig (hd ts) || isFrac (hd ts) then ⟨true, L.length, L ++ [numNd ts], (numT ts).2⟩
      else if hd ts = 105 ∨ isNm (hd ts) = true then ⟨true, L.length, L ++ [opNd (hd ts) 0 0 (hp ts)], ts.tail⟩
      else if hd ts = 40 then brRes (pp f 0 0 ts.tail L)
      else ⟨false, 0, L, ts⟩)) := by show _ = _; unfold brRes; simp only [pp]
  generalize pp (f + 1) 3 0 ts L = R at *
  have hr := h.endOk.2.hd
  go_enter Try.func45, Try.ntmps45
  go_wp2_with fail
  refine (ahead_any p ts _ h).mono ?_
  rintro e w1 ⟨rfl, hw1⟩
  have hw1 := hw1.symm
  subst hw1
  go_wp2_with fail
  refine (isDigit_any (hd ts) _).mono ?_
  rintro e w1 ⟨rfl, hw1⟩
  have hw1 := hw1.symm
  subst hw1
  by_cases hdg : isDig (hd ts) = true
  · have hc : (isDig (hd ts) || isFrac (hd ts)) = true := by rw [hdg]; rfl
    have wn : WfN L.length (numNd ts) := wf_leaf (by decide) (by decide) rfl rfl
    have HR : Hid (R = ⟨true, L.length, L ++ [numNd ts], (numT ts).2⟩) := by
      have := R1.out
      rw [if_pos hc] at this
      exact this
    have HD : Hid (den (L ++ [numNd ts]) L.length = .iface 68 (.agg #[.string (encAll (numT ts).1)])) := by
      show _ = _
      rw [den_last _ _ hw wn, nodeD_num]
    clear R1 wn
    go_wp2_with fail
    refine (pnumeral_any p ts _ h hc).mono ?_
    rintro e w2 ⟨rfl, hP2, hb2⟩
    go_wp2_with fail
    go_ret2
    rw [HR.out]
    exact ⟨_, rfl, Or.inr ⟨_, _, rfl⟩, hP2, hb2, fun _ => HD.out.symm⟩
  · have bdg : isDig (hd ts) = false := by simpa using hdg
    go_wp2_with fail
    refine (isFraction_any (hd ts) _ hr.1 hr.2).mono ?_
    rintro e w2 ⟨rfl, hb2⟩
    have h2 := h.above hb2
    have hb02 : w.grownBy w2 (some p) := gb_below (gb_refl w _) hb2
    clear h hb2
    by_cases hfr : isFrac (hd ts) = true
    · have hc : (isDig (hd ts) || isFrac (hd ts)) = true := by rw [hfr, Bool.or_true]
      have wn : WfN L.length (numNd ts) := wf_leaf (by decide) (by decide) rfl rfl
      have HR : Hid (R = ⟨true, L.length, L ++ [numNd ts], (numT ts).2⟩) := by
        have := R1.out
        rw [if_pos hc] at this
        exact this
      have HD : Hid (den (L ++ [numNd ts]) L.length = .iface 68 (.agg #[.string (encAll (numT ts).1)])) := by
        show _ = _
        rw [den_last _ _ hw wn, nodeD_num]
      clear R1 wn
      go_wp2_with fail
      refine (pnumeral_any p ts _ h2 hc).mono ?_
      rintro e w3 ⟨rfl, hP3, hb3⟩
      go_wp2_with fail
      go_ret2
      rw [HR.out]
      exact ⟨_, rfl, Or.inr ⟨_, _, rfl⟩, hP3, gb_trans hb02 hb3, fun _ => HD.out.symm⟩
    · have bfr : isFrac (hd ts) = false := by simpa using hfr
      have hnc : ¬ (isDig (hd ts) || isFrac (hd ts)) = true := by rw [bdg, bfr]; decide
      by_cases h105 : hd ts = 105
      · have b105 : (hd ts == 105) = true := by simp [h105]
        have hne : hd ts ≠ -1 := by omega
        have wn : WfN L.length (opNd (hd ts) 0 0 (hp ts)) := wf_leaf (by omega) (by omega) (by rw [h105]; rfl) (by rw [h105]; rfl)
        have HR : Hid (R = ⟨true, L.length, L ++ [opNd (hd ts) 0 0 (hp ts)], ts.tail⟩) := by
          have := R1.out
          rw [if_neg hnc, if_pos (Or.inl h105)] at this
          exact this
        have HD : Hid (den (L ++ [opNd (hd ts) 0 0 (hp ts)]) L.length = .iface 74 (.agg #[])) := by
          show _ = _
          rw [den_last _ _ hw wn, h105, nodeD_unit]
        clear R1 wn h105
        go_wp2_with fail
        refine (take_any p ts _ h2 hne).mono ?_
        rintro e w4 ⟨rfl, hP4, v4, hv4⟩
        have hb4 : w.grownBy w4 (some p) := gb_trans hb02 v4
        clear hv4
        go_wp2_with fail
        go_ret2
        rw [HR.out]
        exact ⟨_, rfl, Or.inr ⟨_, _, rfl⟩, hP4, hb4, fun _ => HD.out.symm⟩
      · have b105 : (hd ts == 105) = false := by simp [h105]
        go_wp2_with fail
        refine (isName_any (hd ts) _).mono ?_
        rintro e w3 ⟨rfl, hw3⟩
        have hw3 := hw3.symm
        subst hw3
        by_cases hnm : isNm (hd ts) = true
        · have hrg : 945 ≤ hd ts ∧ hd ts ≤ 969 := by unfold isNm at hnm; simpa using hnm
          have hne : hd ts ≠ -1 := by omega
          have wn : WfN L.length (opNd (hd ts) 0 0 (hp ts)) := wf_leaf (by omega) (by omega) (by unfold isBin; simp; omega) (by unfold isUn; simp; omega)
          have HR : Hid (R = ⟨true, L.length, L ++ [opNd (hd ts) 0 0 (hp ts)], ts.tail⟩) := by
            have := R1.out
            rw [if_neg hnc, if_pos (Or.inr hnm)] at this
            exact this
          have HD : Hid (den (L ++ [opNd (hd ts) 0 0 (hp ts)]) L.length = .iface 76 (.agg #[.int .i32 (hd ts), .int .i64 (hp ts)])) := by
            show _ = _
            rw [den_last _ _ hw wn, nodeD_name hrg]
          clear R1 wn
          go_wp2_with fail
          refine (take_any p ts _ h2 hne).mono ?_
          rintro e w4 ⟨rfl, hP4, v4, hv4⟩
          have hb4 : w.grownBy w4 (some p) := gb_trans hb02 v4
          clear hv4
          go_wp2_with fail
          go_ret2
          rw [HR.out]
          exact ⟨_, rfl, Or.inr ⟨_, _, rfl⟩, hP4, hb4, fun _ => HD.out.symm⟩
        · have bnm : isNm (hd ts) = false := by simpa using hnm
          have hnn : ¬ (hd ts = 105 ∨ isNm (hd ts) = true) := by rw [bnm]; simp [h105]
          by_cases h40 : hd ts = 40
          · have b40 : (hd ts == 40) = true := by simp [h40]
            have hne : hd ts ≠ -1 := by omega
            have hlt2 := (h2.endOk.1.tail hne).2
            have htl : ts.tail.length + 1 = ts.length := by simp; omega
            have HR : Hid (R = brRes (pp f 0 0 ts.tail L)) := by
              have := R1.out
              rw [if_neg hnc, if_neg hnn, if_pos h40] at this
              exact this
            clear R1 h40
            go_wp2_with fail
            refine (take_any p ts _ h2 hne).mono ?_
            rintro e w4 ⟨rfl, hP4, v4, hv4⟩
            have hb4 : w.grownBy w4 (some p) := gb_trans hb02 v4
            clear hv4
            go_wp2_with fail
            refine (bracketed_any p f ih ts.tail L _ (by omega) hw hP4).mono ?_
            generalize brRes (pp f 0 0 ts.tail L) = R5 at *
            rintro e w5 ⟨v5, rfl, hI5, hP5, hb5, hv5⟩
            have HV : Hid (R5.ok = true → v5 = den R5.L R5.k) := hv5
            clear hv5
            go_wp2_with fail
            go_ret2
            rw [HR.out]
            exact ⟨v5, rfl, hI5, hP5, gb_trans hb4 hb5, HV.out⟩
          · have b40 : (hd ts == 40) = false := by simp [h40]
            have HR : Hid (R = ⟨false, 0, L, ts⟩) := by
              have := R1.out
              rw [if_neg hnc, if_neg hnn, if_neg h40] at this
              exact this
            clear R1
            go_wp2_with fail
            go_ret2
            rw [HR.out]
            exact ⟨.nilIface, rfl, Or.inl rfl, h2, hb02, fun h => by cases h⟩

theorem par_all (p : Nat) : ∀ f g, g ≤ f → CSum p g ∧ CPrd p g ∧ CFct p g ∧ CPrm p g := by
  intro f
  induction f with
  | zero =>
    intro g hg
    obtain rfl : g = 0 := by omega
    refine ⟨?_, ?_, ?_, ?_⟩
    · intro ts L w h; omega
    · intro ts L w h; omega
    · intro ts L w h; omega
    · intro ts L w h; omega
  | succ f ih =>
    intro g hg
    by_cases hgf : g ≤ f
    · exact ih g hgf
    · obtain rfl : g = f + 1 := by omega
      exact ⟨sum_step p f (fun g h => (ih g h).2.1), prd_step p f (fun g h => (ih g h).2.2.1), fct_step p f (fun g h => (ih g h).2.2.1) (ih f (Nat.le_refl _)).2.2.2, prm_step p f (ih f (Nat.le_refl _)).1⟩

/-! ### Parse -/
theorem toksF_end (s : ByteArray) : ∀ (f i : Nat) (ap : Bool), EndOk (toksF s f i ap) ∧ RangeOk (toksF s f i ap) := by
  intro f
  induction f with
  | zero =>
    intro i ap
    refine ⟨⟨[], _, rfl, rfl⟩, ?_⟩
    intro t ht
    simp [toksF] at ht
    subst ht
    exact ⟨by simp, by simp⟩
  | succ f ih =>
    intro i ap
    simp only [toksF]
    split
    · split
      · exact ih _ _
      · obtain ⟨⟨pre, t, e, ht⟩, hr⟩ := ih (i + (Utf8.decode s i).2) false
        refine ⟨⟨_ :: pre, t, by rw [e]; rfl, ht⟩, ?_⟩
        intro t' ht'
        simp at ht'
        rcases ht' with rfl | ht'
        · have := decode_max s i
          simp only
          omega
        · exact hr t' ht'
    · refine ⟨⟨[], _, rfl, rfl⟩, ?_⟩
      intro t ht
      simp at ht
      subst ht
      exact ⟨by simp, by simp⟩
theorem tkCells_get : ∀ (L : List Tok) (k t : Nat) (n : Tok), L[k]? = some n → t < 3 → (tkCells L)[3 * k + t]? = n.cells[t]? := by
  intro L
  induction L with
  | nil => intro k t n h; simp at h
  | cons m r ih =>
    intro k t n h ht
    have hc : m.cells.length = 3 := rfl
    have e : tkCells (m :: r) = m.cells ++ tkCells r := by simp [tkCells]
    rw [e]
    cases k with
    | zero =>
      simp at h
      subst h
      rw [List.getElem?_append_left (by omega)]
      simp
    | succ k =>
      simp at h
      rw [List.getElem?_append_right (by omega), hc, show 3 * (k + 1) + t - 3 = 3 * k + t by omega]
      exact ih k t n h ht
/-- The parser, boxed behind the signs. -/
theorem PSt.new {w : World} {ts : List Tok} {B g cap : Nat} (hown : w.ownsRow B 66 3 (.slice (some ⟨g, 0, none⟩) ts.length cap) ts.length (tkCells ts)) (hg : g < w.heap.size) (he : EndOk ts) (hr : RangeOk ts) :
    PSt w.heap.size ts (w.alloc (.cells #[.slice (some ⟨g, 0, none⟩) ts.length cap] 59)) := by
  have hle : ts.length ≤ cap ∧ cap ≤ maxLen := by
    rcases hown.2 with ⟨h2, _⟩ | ⟨g', cap', cur, hv, hg, hh, r1, r2, _⟩
    · cases h2
    · injection hv with _ _ e; subst e; exact ⟨r1, r2⟩
  refine ⟨g, 0, cap, heap_alloc_new w _, hg, hle.1, hle.2, ?_, he, hr⟩
  intro j t ht
  have hj : j < ts.length := (List.getElem?_eq_some_iff.1 ht).1
  have q : ∀ x, x < 3 → (w.alloc (.cells #[.slice (some ⟨g, 0, none⟩) ts.length cap] 59)).cell? ⟨g, 3 * j + x, none⟩ = t.cells[x]? := by
    intro x hx
    rw [World.cell?_alloc_lt _ _ _ hg, World.ownsRow.cellAt hown (3 * j + x) (by omega)]
    exact tkCells_get ts j x t ht hx
  have q0 := q 0 (by decide)
  have q1 := q 1 (by decide)
  have q2 := q 2 (by decide)
  simp only [Nat.zero_add]
  exact ⟨q0, q1, q2⟩
end Go.Proofs.Ytodabmkcihafhaa

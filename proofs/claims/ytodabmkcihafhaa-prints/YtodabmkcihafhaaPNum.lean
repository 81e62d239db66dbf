/- The program's parser: numeral. -/
import Derived.Test.YtodabmkcihafhaaPars
import Derived.Test.YtodabmkcihafhaaRune
import Derived.Test.YtodabmkcihafhaaFormP
import Derived.Deep.LoopGhost
import Derived.Deep.DeepCutAuto
namespace Go.Proofs.Ytodabmkcihafhaa
open Go.RowKit
set_option linter.unusedVariables false

theorem encAll_one (c : Int) : encAll [c] = Utf8.encode c := by simp [encAll]
theorem enc_dig (c : Int) (h : isDig c = true) : (Utf8.encode c).size = 1 := by
  unfold isDig at h
  simp at h
  have v : Utf8.valid c = true := by simp [Utf8.valid]; omega
  simp [Utf8.encode, v, show c.toNat < 128 by omega, ByteArray.size]
theorem dig_ne {c : Int} (h : isDig c = true) : c ≠ -1 := by intro e; rw [e] at h; revert h; decide
theorem frac_ne {c : Int} (h : isFrac c = true) : c ≠ -1 := by intro e; rw [e] at h; revert h; decide

/-- Between two rounds of the numeral's digits. -/
def NumInv (ts : List Tok) (g : Nat) (t : ByteArray) (ts' : List Tok) : Prop :=
  ∃ acc, t = encAll acc ∧ t.size + g = 3 ∧ acc ++ (digs g ts').1 = hd ts :: (digs 2 ts.tail).1 ∧ (digs g ts').2 = (digs 2 ts.tail).2
theorem NumInv.start (ts : List Tok) (h : isDig (hd ts) = true) : NumInv ts 2 (Utf8.encode (hd ts)) ts.tail :=
  ⟨[hd ts], (encAll_one _).symm, by rw [enc_dig _ h], rfl, rfl⟩
theorem NumInv.next {ts ts' : List Tok} {g : Nat} {t : ByteArray} (h : NumInv ts (g + 1) t ts') (hj : isDig (jn ts') = true) : NumInv ts g (t ++ Utf8.encode (jn ts')) ts'.tail := by
  obtain ⟨acc, h1, h2, h3, h4⟩ := h
  have hg : digs (g + 1) ts' = (jn ts' :: (digs g ts'.tail).1, (digs g ts'.tail).2) := by rw [digs, if_pos hj]
  rw [hg] at h3 h4
  exact ⟨acc ++ [jn ts'], by rw [encAll_snoc, h1], by rw [ByteArray.size_append, enc_dig _ hj]; omega, by rw [← h3]; simp, h4⟩
theorem NumInv.stop {ts ts' : List Tok} {g : Nat} {t : ByteArray} (h : NumInv ts g t ts') (hj : g = 0 ∨ isDig (jn ts') = false) : t = encAll (hd ts :: (digs 2 ts.tail).1) ∧ ts' = (digs 2 ts.tail).2 := by
  obtain ⟨acc, h1, h2, h3, h4⟩ := h
  have : digs g ts' = ([], ts') := by
    cases g with
    | zero => rfl
    | succ g =>
      simp only [digs]
      rcases hj with hj | hj
      · omega
      · rw [if_neg (by rw [hj]; decide)]
  rw [this] at h3 h4
  simp at h3
  exact ⟨by rw [h1, h3], h4⟩

/-- What is known of the whole when the digits are through. -/
def DigDone (ts : List Tok) (t : ByteArray) (ts' : List Tok) : Prop :=
  ∃ d, isFrac (hd ts) = false ∧ (if hd ts = 48 then ([], ts.tail) else digs 2 ts.tail) = (d, ts') ∧ t = encAll (hd ts :: d) ∧ t.size ≤ 20
theorem DigDone.frac {ts ts' : List Tok} {t : ByteArray} (h : DigDone ts t ts') (hf : isFrac (jn ts') = true) : numT ts = ((numT ts).1, ts'.tail) ∧ encAll (numT ts).1 = t ++ Utf8.encode (jn ts') := by
  obtain ⟨d, h1, h2, h3, h4⟩ := h
  have hft : fracT ts' = ([jn ts'], ts'.tail) := by unfold fracT; rw [if_pos hf]
  have : numT ts = (hd ts :: d ++ [jn ts'], ts'.tail) := by
    unfold numT
    rw [if_neg (by rw [h1]; decide)]
    simp only [h2, hft]
  rw [this]
  refine ⟨rfl, ?_⟩
  rw [encAll_snoc, h3]
theorem DigDone.none {ts ts' : List Tok} {t : ByteArray} (h : DigDone ts t ts') (hf : isFrac (jn ts') = false) : numT ts = ((numT ts).1, ts') ∧ encAll (numT ts).1 = t := by
  obtain ⟨d, h1, h2, h3, h4⟩ := h
  have hft : fracT ts' = ([], ts') := by unfold fracT; rw [if_neg (by rw [hf]; decide)]
  have : numT ts = (hd ts :: d ++ [], ts') := by
    unfold numT
    rw [if_neg (by rw [h1]; decide)]
    simp only [h2, hft]
  rw [this]
  refine ⟨rfl, ?_⟩
  rw [List.append_nil, h3]

set_option maxHeartbeats 2000000 in
set_option maxRecDepth 100000 in
theorem pnumeral_any (p : Nat) (ts : List Tok) (w : World) (h : PSt p ts w) (hc : (isDig (hd ts) || isFrac (hd ts)) = true) :
    Calls Try.prog 53 #[.pointer (some ⟨p, 0, none⟩)] w fun e w' => e = .returned (.agg #[.string (encAll (numT ts).1)]) ∧ PSt p (numT ts).2 w' ∧ w.grownBy w' (some p) := by
  have hne : hd ts ≠ -1 := by
    rw [Bool.or_eq_true] at hc
    rcases hc with h | h
    · exact dig_ne h
    · exact frac_ne h
  have hr := h.endOk.2.hd
  have hlt := h.lt
  have hw0 : Below w.heap.size w (w.alloc (.cells #[.string ByteArray.empty] 68)) := (Below.refl _ _).alloc (Nat.le_refl _) _
  have qf := fldS0
  go_enter Try.func53, Try.ntmps53
  go_wp2_with fail
  refine (take_any p ts _ (h.above hw0) hne).mono ?_
  rintro e w1 ⟨rfl, h1, v1, hv1⟩
  have hres1 : w1.heap[w.heap.size]? = some (.cells #[.string ByteArray.empty] 68 (0, 0)) := by
    rw [v1.block _ (by simp) (by simp; omega)]
    exact heap_alloc_new w _
  have hb1 : w.grownBy w1 (some p) := gb_trans (gb_below (gb_refl w _) hw0) v1
  clear hv1 hw0
  go_wp2_with fail
  refine (isFraction_any (hd ts) _ hr.1 hr.2).mono ?_
  rintro e w2 ⟨rfl, hb2⟩
  have hw1lt : w.heap.size < w1.heap.size := (Array.getElem?_eq_some_iff.1 hres1).1
  have hres2 : w2.heap[w.heap.size]? = some (.cells #[.string ByteArray.empty] 68 (0, 0)) := by rw [hb2.block _ hw1lt]; exact hres1
  have h2 := h1.above hb2
  have hb12 : w.grownBy w2 (some p) := gb_below hb1 hb2
  have fz : w2.frozen? ⟨w.heap.size, 0, none⟩ = false := by simp [World.frozen?, hres2]
  have cz : w2.cell? ⟨w.heap.size, 0, none⟩ = some (.string ByteArray.empty) := by simp [World.cell?, hres2]
  clear h h1 hb1 hb2 hres1
  by_cases hf : isFrac (hd ts) = true
  · have HF : Hid (numT ts = ([hd ts], ts.tail)) := by show numT ts = _; unfold numT; rw [if_pos hf]
    have bf : isFrac (hd ts) = true := hf
    go_wp2_with fail
    refine bodyPost_ret (v := .agg #[.string (Utf8.encode (hd ts))]) (by simp [results, Try.results53, go_sem, cz]) rfl ?_
    rw [HF.out, encAll_one]
    exact ⟨rfl, h2.ext ((Below.refl _ _).setCell (p := ⟨w.heap.size, 0, none⟩) (by simp; omega) _), gb_new hb12 (Nat.le_refl _) 0 _⟩
  · have bf : isFrac (hd ts) = false := by simpa using hf
    have bd : isDig (hd ts) = true := by rw [bf, Bool.or_false] at hc; exact hc
    have hst := NumInv.start ts bd
    have hes := enc_dig _ bd
    clear hf hc fz cz
    go_wp2_with fail
    go_loopg [4] 2 (fun g s4 wr => ∃ t ts', s4 = .string t ∧ t.size ≤ 3 ∧ PSt p ts' wr ∧ wr.heap[w.heap.size]? = some (.cells #[.string ByteArray.empty] 68 (0, 0)) ∧ w.grownBy wr (some p) ∧ Hid ((hd ts = 48 ∧ t = Utf8.encode (hd ts) ∧ ts' = ts.tail) ∨ (hd ts ≠ 48 ∧ NumInv ts (3 - t.size) t ts')) ∧ g = 3 - t.size)
    case atStart =>
      refine ⟨_, _, rfl, by omega, h2, hres2, hb12, ?_, ?_⟩
      · by_cases h48 : hd ts = 48
        · exact Or.inl ⟨h48, rfl, rfl⟩
        · exact Or.inr ⟨h48, by rw [hes]; exact hst⟩
      · rw [hes]
    case round =>
      clear hst h2 hres2 hb12
      obtain ⟨t, ts', rfl, hts, h3, hres3, hb3, HI, hg⟩ := hrel
      go_upto_region 5 with fail
      go_cut [25] (fun s25 wc => s25 = .bool (decide (hd ts ≠ 48 ∧ t.size < 3 ∧ isDig (jn ts') = true)) ∧ wr = wc)
      case first =>
        by_cases q1 : hd ts = 48
        · have b1 : (hd ts != 48) = false := by simp [q1]
          have Q1 : Hid (hd ts = 48) := q1
          clear q1
          go_wp2_with fail
          go_meet
          case rel => exact ⟨congrArg Value.bool (by simp [Q1.out]), rfl⟩
        · have b1 : (hd ts != 48) = true := by simp [q1]
          by_cases q2 : t.size < 3
          · have b2 : (t.size : Int) < 3 := by omega
            go_wp2_with fail
            refine (joined_any p ts' _ h3).mono ?_
            rintro e w' ⟨rfl, rfl⟩
            go_wp2_with fail
            refine (isDigit_any (jn ts') _).mono ?_
            rintro e w' ⟨rfl, rfl⟩
            go_wp2_with fail
            go_meet
            case rel => exact ⟨congrArg Value.bool (by simp [q1, q2]), rfl⟩
          · have b2 : decide ((t.size : Int) < 3) = false := by simp; omega
            go_wp2_with fail
            go_meet
            case rel => exact ⟨congrArg Value.bool (by simp [q2]), rfl⟩
      case rest =>
        obtain ⟨rfl, rfl⟩ := hcut
        by_cases hq : hd ts ≠ 48 ∧ t.size < 3 ∧ isDig (jn ts') = true
        · rw [decide_eq_true hq]
          obtain ⟨q1, q2, q3⟩ := hq
          have hjd := hd_of_jn (dig_ne q3)
          have hnI : NumInv ts (3 - t.size) t ts' := by
            rcases HI.out with ⟨h48, _⟩ | ⟨_, hh⟩
            · exact absurd h48 q1
            · exact hh
          have he1 : (Utf8.encode (hd ts')).size = 1 := by rw [hjd]; exact enc_dig _ q3
          have HJ : Hid (NumInv ts (3 - (t ++ Utf8.encode (hd ts')).size) (t ++ Utf8.encode (hd ts')) ts'.tail) := by
            rw [show 3 - t.size = (3 - t.size - 1) + 1 by omega] at hnI
            have := hnI.next q3
            show NumInv _ _ _ _
            rw [ByteArray.size_append, he1, hjd, show 3 - (t.size + 1) = 3 - t.size - 1 by omega]
            exact this
          have hne' : hd ts' ≠ -1 := by rw [hjd]; exact dig_ne q3
          have QA : Hid (hd ts ≠ 48) := q1
          have n1 : ¬ 9223372036854775807 < t.size + (Utf8.encode (hd ts')).size := by omega
          clear HI hjd hnI q1 q3
          go_wp2_with fail
          refine (take_any p ts' _ h3 hne').mono ?_
          rintro e w4 ⟨rfl, h4, v4, hv4⟩
          have hres4 : w4.heap[w.heap.size]? = some (.cells #[.string ByteArray.empty] 68 (0, 0)) := by
            rw [v4.block _ (Array.getElem?_eq_some_iff.1 hres3).1 (by simp; omega)]
            exact hres3
          have hb4 : w.grownBy w4 (some p) := gb_trans hb3 v4
          have H4 : Hid (w4.heap[w.heap.size]? = some (.cells #[.string ByteArray.empty] 68 (0, 0))) := hres4
          clear hv4 h3 hb3 hres3 hres4 hne'
          go_wp2_with fail
          go_roundg (3 - (t ++ Utf8.encode (hd ts')).size)
          case measure => rw [ByteArray.size_append]; omega
          case rel => exact ⟨_, ts'.tail, rfl, by rw [ByteArray.size_append]; omega, h4, H4.out, hb4, Or.inr ⟨QA.out, HJ.out⟩, rfl⟩
        · rw [decide_eq_false hq]
          have hDD : DigDone ts t ts' := by
            rcases HI.out with ⟨h48, rfl, rfl⟩ | ⟨h48, hn⟩
            · exact ⟨[], bf, by rw [if_pos h48], by rw [encAll_one], by omega⟩
            · obtain ⟨e1, e2⟩ := hn.stop (by
                by_cases q2 : t.size < 3
                · right
                  have : ¬ isDig (jn ts') = true := fun hj => hq ⟨h48, q2, hj⟩
                  simpa using this
                · left; omega)
              exact ⟨(digs 2 ts.tail).1, bf, by rw [if_neg h48, e2], e1, by omega⟩
          have hjr := h3.endOk.2.jn
          have hw3lt : w.heap.size < wr.heap.size := (Array.getElem?_eq_some_iff.1 hres3).1
          clear HI hq
          go_wp2_with fail
          refine (joined_any p ts' _ h3).mono ?_
          rintro e w' ⟨rfl, rfl⟩
          go_wp2_with fail
          refine (isFraction_any (jn ts') _ hjr.1 hjr.2).mono ?_
          rintro e w4 ⟨rfl, hb4⟩
          have h4 := h3.above hb4
          have hres4 : w4.heap[w.heap.size]? = some (.cells #[.string ByteArray.empty] 68 (0, 0)) := by rw [hb4.block _ hw3lt]; exact hres3
          have hb34 : w.grownBy w4 (some p) := gb_below hb3 hb4
          clear h3 hres3 hb3 hb4
          by_cases hf : isFrac (jn ts') = true
          · obtain ⟨e1, e2⟩ := hDD.frac hf
            have hjd := hd_of_jn (frac_ne hf)
            have E1 : Hid ((numT ts).2 = ts'.tail ∧ encAll (numT ts).1 = t ++ Utf8.encode (hd ts')) := ⟨by rw [e1], by rw [hjd]; exact e2⟩
            have hne' : hd ts' ≠ -1 := by rw [hjd]; exact frac_ne hf
            have hs4 := enc_size (hd ts')
            have n1 : ¬ 9223372036854775807 < t.size + (Utf8.encode (hd ts')).size := by omega
            clear e1 e2 hDD hjd
            go_wp2_with fail
            refine (take_any p ts' _ h4 hne').mono ?_
            rintro e w5 ⟨rfl, h5, v5, hv5⟩
            have hres5 : w5.heap[w.heap.size]? = some (.cells #[.string ByteArray.empty] 68 (0, 0)) := by
              rw [v5.block _ (Array.getElem?_eq_some_iff.1 hres4).1 (by simp; omega)]
              exact hres4
            have hb5 : w.grownBy w5 (some p) := gb_trans hb34 v5
            have fz : w5.frozen? ⟨w.heap.size, 0, none⟩ = false := by simp [World.frozen?, hres5]
            have cz : w5.cell? ⟨w.heap.size, 0, none⟩ = some (.string ByteArray.empty) := by simp [World.cell?, hres5]
            clear hv5 h4 hres4 hb34 hres5
            go_wp2_with fail
            refine bodyPost_ret (v := .agg #[.string (t ++ Utf8.encode (hd ts'))]) (by simp [results, Try.results53, go_sem, cz]) rfl ?_
            rw [E1.out.1, E1.out.2]
            exact ⟨rfl, h5.ext ((Below.refl _ _).setCell (p := ⟨w.heap.size, 0, none⟩) (by simp; omega) _), gb_new hb5 (Nat.le_refl _) 0 _⟩
          · have bf2 : isFrac (jn ts') = false := by simpa using hf
            obtain ⟨e1, e2⟩ := hDD.none bf2
            have E1 : Hid ((numT ts).2 = ts' ∧ encAll (numT ts).1 = t) := ⟨by rw [e1], e2⟩
            have fz : w4.frozen? ⟨w.heap.size, 0, none⟩ = false := by simp [World.frozen?, hres4]
            have cz : w4.cell? ⟨w.heap.size, 0, none⟩ = some (.string ByteArray.empty) := by simp [World.cell?, hres4]
            clear e1 e2 hDD hres4
            go_wp2_with fail
            refine bodyPost_ret (v := .agg #[.string t]) (by simp [results, Try.results53, go_sem, cz]) rfl ?_
            rw [E1.out.1, E1.out.2]
            exact ⟨rfl, h4.ext ((Below.refl _ _).setCell (p := ⟨w.heap.size, 0, none⟩) (by simp; omega) _), gb_new hb34 (Nat.le_refl _) 0 _⟩
end Go.Proofs.Ytodabmkcihafhaa

/- The document's Read and Print. -/
import Derived.Test.YtodabmkcihafhaaRdr
import Derived.Test.YtodabmkcihafhaaFormW
namespace Go.Proofs.Ytodabmkcihafhaa
open Go.RowKit
set_option linter.unusedVariables false

/-- The root is made last. -/
theorem pp_last : ∀ (f tag k : Nat) (ts : List Tok) (L : List Nd), (pp f tag k ts L).ok = true → (tag < 4 ∨ k + 1 = L.length) → (pp f tag k ts L).k + 1 = (pp f tag k ts L).L.length := by
  intro f
  induction f with
  | zero => intro tag k ts L h; simp [pp] at h
  | succ f ih =>
    intro tag k ts L
    match tag with
    | 0 =>
      simp only [pp]
      split
      · rename_i ho; intro h _; exact ih 4 _ _ _ h (Or.inr (ih 1 _ _ _ ho (Or.inl (by decide))))
      · rename_i ho; intro h; exact absurd h ho
    | 1 =>
      simp only [pp]
      split
      · rename_i ho; intro h _; exact ih 5 _ _ _ h (Or.inr (ih 2 _ _ _ ho (Or.inl (by decide))))
      · rename_i ho; intro h; exact absurd h ho
    | 2 =>
      simp only [pp]
      split
      · split
        · intro _ _; simp
        · rename_i ho; intro h; exact absurd h ho
      · split
        · rename_i ho; intro h _; exact ih 6 _ _ _ h (Or.inr (ih 3 _ _ _ ho (Or.inl (by decide))))
        · rename_i ho; intro h; exact absurd h ho
    | 3 =>
      simp only [pp]
      split
      · intro _ _; simp
      · split
        · intro _ _; simp
        · split
          · split
            · rename_i ho
              split
              · intro _ _; exact ih 0 _ _ _ ho (Or.inl (by decide))
              · intro h; cases h
            · rename_i ho; intro h; exact absurd h ho
          · intro h; cases h
    | 4 =>
      simp only [pp]
      split
      · split
        · intro h _; exact ih 4 _ _ _ h (Or.inr (by simp))
        · rename_i ho; intro h; exact absurd h ho
      · intro _ h; rcases h with h | h; omega; exact h
    | 5 =>
      simp only [pp]
      split
      · split
        · intro h _; exact ih 5 _ _ _ h (Or.inr (by simp))
        · rename_i ho; intro h; exact absurd h ho
      · intro _ h; rcases h with h | h; omega; exact h
    | n + 6 =>
      simp only [pp]
      split
      · intro h _; exact ih 6 _ _ _ h (Or.inr (by simp))
      · intro _ h; rcases h with h | h; omega; exact h

/-- The reading of a whole text. -/
def top (s : ByteArray) : Res := pp 2000 0 0 (toks s 0 false) []
def good (s : ByteArray) : Bool := (top s).ok && hd (top s).ts == -1

theorem toks_len (s : ByteArray) (hs : s.size ≤ 120) : (toks s 0 false).length ≤ 121 := by
  have := toks_length s (s.size - 0) 0 false
  unfold toks
  omega
theorem wf_nil : WfL [] := fun k n h => by simp at h
theorem RdSt.new (s : ByteArray) (w : World) : RdSt s w.heap.size 0 [] (-1) (w.alloc (.cells #[.string s, .int .i64 0, .slice none 0 0, .int .i64 (-1)] 48)) :=
  ⟨.slice none 0 0, heap_alloc_new w _, World.ownsRow_nil _ _ _ _⟩
theorem RdSt.row {s : ByteArray} {b i : Nat} {L : List Nd} {bad : Int} {w : World} (h : RdSt s b i L bad w) (hL : 0 < L.length) : ∃ g cap, w.cell? ⟨b, 2, none⟩ = some (.slice (some ⟨g, 0, none⟩) L.length cap) ∧ NRow w g cap L := by
  obtain ⟨v, hb, ho⟩ := h
  obtain ⟨g, cap, rfl, h1, h2⟩ := ho.form hL
  refine ⟨g, cap, (rd_cells hb).2.2.1, ho.1, ?_⟩
  rcases ho.2 with h2 | ⟨g', cap', cur, hv, hg, r⟩
  · exact Or.inl h2
  · exact Or.inr ⟨g', cap', cur, hv, Nat.zero_le _, r⟩

set_option maxHeartbeats 2000000 in
set_option maxRecDepth 100000 in
theorem read_good (s : ByteArray) (w : World) (hs : s.size ≤ 120) (hg : good s = true) :
    Calls Try.prog 9 #[.string s] w fun e w' => ∃ g cap, e = .returned (.tuple #[.slice (some ⟨g, 0, none⟩) (top s).L.length cap, .int .i64 (-1)]) ∧ NRow w' g cap (top s).L ∧ Below w.heap.size w w' := by
  have hl := toks_len s hs
  have hok : (top s).ok = true := by unfold good at hg; simp at hg; exact hg.1
  have hhd : hd (top s).ts = -1 := by unfold good at hg; simp at hg; exact hg.2
  have hlast := pp_last 2000 0 0 (toks s 0 false) [] hok (Or.inl (by decide))
  have Hr := (rdr_all s w.heap.size hs 2000 2000 (Nat.le_refl _)).1
  have hlast : (top s).k + 1 = (top s).L.length := hlast
  have hlen : (top s).L.length ≤ 121 := by
    have := (pp_inv 2000 0 0 (toks s 0 false) []).len
    have e : (pp 2000 0 0 (toks s 0 false) []).L.length = (top s).L.length := rfl
    simp at this
    omega
  have X : Hid ((top s).ok = true ∧ hd (top s).ts = -1) := ⟨hok, hhd⟩
  clear hok hhd hg
  go_enter Try.func9, Try.ntmps9
  go_wp2_with fail
  refine (Hr (toks s 0 false) [] 0 false _ 900 (by omega) (Nat.zero_le _) rfl (RdSt.new s w) (by simp; omega) (by omega)).mono ?_
  rintro e w1 ⟨k1, i1, L1, rfl, hi1, hb1, hL1, hP⟩
  obtain ⟨o1, rfl, rfl, h1, ap1, o5⟩ : (top s).ok = true ∧ k1 = (top s).k ∧ L1 = (top s).L ∧ RdSt s w.heap.size i1 L1 (-1) w1 ∧ ∃ ap, (top s).ts = toks s i1 ap := by
    rcases hP with h | ⟨h, _⟩
    · exact h
    · have := X.out.1; unfold top at this; rw [h] at this; cases this
  clear hP o1
  generalize hR : top s = R at *
  have HR : Hid (top s = R) := hR
  clear hR
  have O5 : Hid (R.ts = toks s i1 ap1) := o5
  clear o5
  go_wp2_with fail
  refine (sign_pos s w.heap.size i1 R.L (-1) _ R.ts ap1 hs hi1 O5.out h1).mono ?_
  rintro e w2 ⟨c, j, rfl, h2, hb2, hc20, hA⟩
  have hj : j = s.size := by
    have h1 := hA.le
    have h2 := hA.sim
    rw [X.out.2] at h2
    obtain ⟨ap, h3⟩ := hA.at'
    apply Nat.le_antisymm h1
    apply Nat.le_of_not_lt
    intro hlt
    have hnb := hA.nb
    have := toks_cons s j ap hlt (by omega)
    rw [← h3] at this
    have q := X.out.2
    rw [this] at q
    simp [hd] at q
  subst hj
  have hpos : 0 < R.L.length := by omega
  obtain ⟨g, cap, cc, hN⟩ := h2.row hpos
  obtain ⟨c1, c3⟩ := rd_out h2
  have HN := hN
  clear h1 hA hN X O5
  have q1 : ((R.k : Int) != (R.L.length : Int) - 1) = false := by simp; omega
  go_wp2_with fail
  go_ret2
  rw [HR.out]
  exact ⟨g, cap, rfl, HN, ((below_alloc w _).trans hb1).trans hb2⟩

set_option maxHeartbeats 2000000 in
set_option maxRecDepth 100000 in
theorem read_bad (s : ByteArray) (w : World) (hs : s.size ≤ 120) (hg : good s = false) :
    Calls Try.prog 9 #[.string s] w fun e w' => e = .returned (.tuple #[.slice none 0 0, .int .i64 (hp (top s).ts)]) ∧ Below w.heap.size w w' := by
  have hl := toks_len s hs
  have Hr := (rdr_all s w.heap.size hs 2000 2000 (Nat.le_refl _)).1
  have X : Hid (good s = false) := hg
  clear hg
  go_enter Try.func9, Try.ntmps9
  go_wp2_with fail
  refine (Hr (toks s 0 false) [] 0 false _ 900 (by omega) (Nat.zero_le _) rfl (RdSt.new s w) (by simp; omega) (by omega)).mono ?_
  rintro e w1 ⟨k1, i1, L1, rfl, hi1, hb1, hL1, hP⟩
  rcases hP with ⟨o1, o2, o3, h1, ap1, o5⟩ | ⟨o1, h1⟩
  · have hne : hd (top s).ts ≠ -1 := by
      intro e
      have := X.out
      unfold good at this
      rw [show (top s).ok = true from o1, e] at this
      revert this; decide
    have O5 : Hid ((top s).ts = toks s i1 ap1) := o5
    have HNE : Hid (hd (top s).ts ≠ -1) := hne
    clear o1 o2 o3 o5 hne X
    generalize hR : top s = R at *
    have HR : Hid (top s = R) := hR
    clear hR
    go_wp2_with fail
    refine (sign_pos s w.heap.size i1 L1 (-1) _ R.ts ap1 hs hi1 O5.out h1).mono ?_
    rintro e w2 ⟨c, j, rfl, h2, hb2, hc20, hA⟩
    have hj : j < s.size := by
      apply Nat.lt_of_not_le
      intro hle
      apply HNE.out
      obtain ⟨ap, h3⟩ := hA.at'
      rw [h3, toks_end s j ap hle]
      rfl
    have HPL : Hid (hp R.ts = j) := hA.pl
    obtain ⟨c1, c3⟩ := rd_out h2
    have hle := hA.le
    clear h1 hA O5 HNE
    go_wp2_with fail
    refine (fail_any s w.heap.size j L1 (-1) _ hs hle h2).mono ?_
    rintro e w3 ⟨rfl, h3, hb3⟩
    rw [if_pos (by decide)] at h3
    obtain ⟨c1, c3⟩ := rd_out h3
    go_wp2_with fail
    go_quiet (fail)
    go_wp2_with fail
    go_ret2
    rw [HR.out, HPL.out]
    exact ⟨rfl, below_drewN ((((below_alloc w _).trans hb1).trans hb2).trans hb3) _⟩
  · have h1' : RdSt s w.heap.size i1 L1 (hp (top s).ts) w1 := h1
    clear o1 h1 X
    obtain ⟨pl, hpl⟩ : ∃ x, hp (top s).ts = x := ⟨_, rfl⟩
    rw [hpl] at h1'
    have HPL : Hid (hp (top s).ts = pl) := hpl
    clear hpl
    go_wp2_with fail
    refine (sign_any s w.heap.size i1 L1 _ _ hs hi1 h1').mono ?_
    rintro e w2 ⟨rfl, h2, hb2⟩
    obtain ⟨c1, c3⟩ := rd_out h2
    have q1 : ¬ (pl : Int) < 0 := by omega
    have q2 : decide ((pl : Int) < 0) = false := by simp
    have q3 : (0 : Int) ≤ (pl : Int) := by omega
    clear h1'
    go_wp2_with fail
    go_quiet (fail)
    go_wp2_with fail
    go_ret2
    rw [HPL.out]
    exact ⟨rfl, below_drewN (((below_alloc w _).trans hb1).trans hb2) _⟩

/-- What the document prints. -/
def refT (s : ByteArray) : ByteArray := if 120 < s.size then ByteArray.empty else if good s then fm (top s).L (top s).k else ByteArray.empty
def refE (s : ByteArray) : Int := if 120 < s.size then 1 else if good s then 0 else 2
def refP (s : ByteArray) : Int := if 120 < s.size then 0 else if good s then 0 else hp (top s).ts

theorem top_size (s : ByteArray) (hs : s.size ≤ 120) (hg : good s = true) : WfL (top s).L ∧ (fm (top s).L (top s).k).size ≤ 726 ∧ (top s).k + 1 = (top s).L.length ∧ (top s).L.length ≤ 121 := by
  have hl := toks_len s hs
  have hok : (top s).ok = true := by unfold good at hg; simp at hg; exact hg.1
  have ps := pp_size 2000 0 0 (toks s 0 false) [] wf_nil (by omega) hok
  have hlast := pp_last 2000 0 0 (toks s 0 false) [] hok (Or.inl (by decide))
  have hlen := (pp_inv 2000 0 0 (toks s 0 false) []).len
  have hsz := ps.sz (by decide)
  simp at hlen
  exact ⟨ps.wf, by unfold top; omega, hlast, by unfold top; omega⟩

set_option maxHeartbeats 2000000 in
set_option maxRecDepth 100000 in
theorem refPrint_any (s : ByteArray) (w : World) :
    Calls Try.prog 5 #[.string s] w fun e w' => e = .returned (.tuple #[.string (refT s), .int .i64 (refE s), .int .i64 (refP s)]) ∧ Below w.heap.size w w' := by
  unfold refT refE refP
  by_cases h120 : 120 < s.size
  · rw [if_pos h120, if_pos h120, if_pos h120]
    go_enter Try.func5, Try.ntmps5
    go_wp2_with fail
    go_ret3
    exact ⟨rfl, Below.refl _ _⟩
  · rw [if_neg h120, if_neg h120, if_neg h120]
    by_cases hg : good s = true
    · rw [if_pos hg, if_pos hg, if_pos hg]
      obtain ⟨t1, t2, t3, t4⟩ := top_size s (by omega) hg
      have cr := read_good s w (by omega) hg
      clear hg
      generalize top s = R at *
      have T3 : Hid (R.k + 1 = R.L.length) := t3
      obtain ⟨F, hF⟩ : ∃ F, fm R.L R.k = F := ⟨_, rfl⟩
      have HF : Hid (fm R.L R.k = F) := hF
      rw [hF]
      have cf := (form_all (R.k + 1)).1
      clear hF
      go_enter Try.func5, Try.ntmps5
      go_wp2_with fail
      refine cr.mono ?_
      rintro e w1 ⟨g, cap, rfl, hN, hb1⟩
      go_wp2_with fail
      rw [show ((R.L.length : Nat) : Int) - 1 = (R.k : Nat) by omega]
      refine (cf R.L R.k g cap _ t1 (by omega) (by omega) (by omega) (by omega) hN).mono ?_
      rintro e w2 ⟨rfl, hb2⟩
      rw [HF.out]
      go_wp2_with fail
      go_ret3
      exact ⟨rfl, hb1.trans (hb2.mono hb1.size)⟩
    · rw [if_neg hg, if_neg hg, if_neg hg]
      have cr := read_bad s w (by omega) (by simpa using hg)
      clear hg
      generalize hp (top s).ts = pl at *
      have q1 : (0 : Int) ≤ (pl : Int) := by omega
      go_enter Try.func5, Try.ntmps5
      go_wp2_with fail
      refine cr.mono ?_
      rintro e w1 ⟨rfl, hb1⟩
      go_wp2_with fail
      go_ret3
      exact ⟨rfl, hb1⟩
end Go.Proofs.Ytodabmkcihafhaa
